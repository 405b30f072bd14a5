/-
  Part 10 of the proof: 4 texts, one behind the other.
-/
import Derived.Test.YtpchhfhdepkbcabDoorPart9
import Derived.Test.YtpchhfhdepkbcabDoorPart1
/-
  What the call of turnpikeref2's Parse does, of the family 128, where there is a gap.
-/
namespace Go.Proofs.YtpchhfhdepkbcabDoor
open Go.RowKit
set_option linter.unusedSimpArgs false
set_option linter.unusedVariables false

set_option maxHeartbeats 8000000 in
set_option maxRecDepth 20000 in
theorem rparse_sixB (t : ByteArray) (w : World) (p : Nat) (hl : t.size ≤ 60) (hg : gapV t = p) :
    Calls Tryd.prog 37 #[.int .i64 128, .string t] w fun e w' => e = .returned (.tuple #[.agg #[.int .u64 (hI (outV (rsB t p))), .int .u64 (lI (outV (rsB t p)))], .int .i64 (outE (rsB t p))]) ∧ Below w.heap.size w w' := by
  obtain ⟨i0, hi, hz0, hz1, hz2⟩ := info_parts Tryd.infoI
  have hpb := gapV_bd t (by omega)
  rw [hg] at hpb
  have KI := fun w => isFamily_any 128 w
  have hl2 : ¬ (60 : Int) < (t.size : Int) := by omega
  have KG := fun w => gap_any t w (by omega)
  rw [hg] at KG
  have KA := fun w => groups_any (t.extract 0 p) false w (by simp; omega)
  have KB := fun w => groups_any (t.extract (p + 2) t.size) true w (by simp; omega)
  have HBA : Hid (∀ xs, gsO (t.extract 0 p) false = some xs → ∀ x ∈ xs, 0 ≤ x ∧ x ≤ 65535) := gsO_bd _ _
  have HBB : Hid (∀ xs, gsO (t.extract (p + 2) t.size) true = some xs → ∀ x ∈ xs, 0 ≤ x ∧ x ≤ 65535) := gsO_bd _ _
  have HLA : Hid (∀ xs, gsO (t.extract 0 p) false = some xs → xs.length ≤ 1000) := fun xs e => by have := gsO_len _ _ _ e; simp at this; omega
  have HLB : Hid (∀ xs, gsO (t.extract (p + 2) t.size) true = some xs → xs.length ≤ 1000) := fun xs e => by have := gsO_len _ _ _ e; simp at this; omega
  have HRN : Hid (∀ {o}, gsO (t.extract 0 p) false = none → rsB t p = o → o = none) := by
    intro o h1 h2; rw [← h2]; unfold rsB; rw [h1]
  have HRM : Hid (∀ {A o}, gsO (t.extract 0 p) false = some A → gsO (t.extract (p + 2) t.size) true = none → rsB t p = o → o = none) := by
    intro A o h1 h2 h3; rw [← h3]; unfold rsB; rw [h1, h2]
  have HRS : Hid (∀ {A B}, gsO (t.extract 0 p) false = some A → gsO (t.extract (p + 2) t.size) true = some B → rsB t p = if A.length + B.length ≤ 7 then some (A ++ List.replicate (8 - (A.length + B.length)) 0 ++ B) else none) := by
    intro A B h1 h2; unfold rsB; rw [h1, h2]
  have p0 : ¬ (p : Int) < 0 := by omega
  have hps : (p : Int) ≤ (t.size : Int) := by omega
  obtain ⟨m, HMP⟩ : ∃ m, Hid (p + 2 = m) := ⟨_, rfl⟩
  rw [HMP.out] at KB
  have hu3 : (p : Int) + 2 = (m : Int) := by have := HMP.out; omega
  have hu2 : IntKind.i64.wrap (m : Int) = (m : Int) := by rw [IntKind.wrap_i64]; omega
  have hps2 : (m : Int) ≤ (t.size : Int) := by omega
  clear hg
  go_enter Tryd.func37, Tryd.ntmps37
  go_wp2_with fail
  refine (KI _).mono ?_
  rintro e w1 ⟨rfl, hw1⟩
  rw [hw1]; clear hw1 KI
  go_wp2_with fail
  refine (KG _).mono ?_
  rintro e w1 ⟨rfl, hw1⟩
  rw [hw1]; clear hw1 KG
  go_wp2_with fail
  refine (KA _).mono ?_
  rintro e w2 ⟨horA, hb2⟩
  clear KA
  have hZ := (at_new w w.heap.size 0#128 24 rfl).below hb2
  have kB := keepb hb2 (bl1 w _)
  clear hb2
  rcases horA with ⟨hnoA, rfl⟩ | ⟨A, ao, ac, hsoA, rfl, hownA⟩
  · have HF : Hid (rsB t p = none) := HRN.out hnoA rfl
    clear HRN HRM HRS HBA HBB
    go_wp2_with fail
    refine (KB _).mono ?_
    rintro e w3 ⟨horB, hb3⟩
    clear KB
    have hZ := hZ.below hb3
    have kB := keepb hb3 kB
    clear hb3
    obtain ⟨z0, z1, z2, z3, z4⟩ := hZ
    rcases horB with ⟨hnoB, rfl⟩ | ⟨B, bo, bc, hsoB, rfl, hownB⟩
    · go_wp2
      exact bodyPost_ret (v := .tuple #[.agg #[.int .u64 0, .int .u64 0], .int .i64 12]) (by simp [results, Tryd.results37, go_sem, *]) rfl ⟨by rw [HF.out]; show _ = Ending.returned (.tuple #[.agg #[.int .u64 (hI 0#128), .int .u64 (lI 0#128)], .int .i64 12]); rw [hI_zero, lI_zero], bset2 kB (Nat.le_refl _) _ _⟩
    · clear hownB
      go_wp2
      exact bodyPost_ret (v := .tuple #[.agg #[.int .u64 0, .int .u64 0], .int .i64 12]) (by simp [results, Tryd.results37, go_sem, *]) rfl ⟨by rw [HF.out]; show _ = Ending.returned (.tuple #[.agg #[.int .u64 (hI 0#128), .int .u64 (lI 0#128)], .int .i64 12]); rw [hI_zero, lI_zero], bset2 kB (Nat.le_refl _) _ _⟩
  · go_wp2_with fail
    refine (KB _).mono ?_
    rintro e w3 ⟨horB, hb3⟩
    clear KB
    have hZ := hZ.below hb3
    have kB := keepb hb3 kB
    have hownA := rowBelow hb3 hownA
    rw [← HMP.out] at horB
    rcases horB with ⟨hnoB, rfl⟩ | ⟨B, bo, bc, hsoB, rfl, hownB⟩
    · have HF : Hid (rsB t p = none) := HRM.out hsoA hnoB rfl
      clear HRN HRM HRS HBA HBB hb3 hownA
      obtain ⟨z0, z1, z2, z3, z4⟩ := hZ
      go_wp2
      exact bodyPost_ret (v := .tuple #[.agg #[.int .u64 0, .int .u64 0], .int .i64 12]) (by simp [results, Tryd.results37, go_sem, *]) rfl ⟨by rw [HF.out]; show _ = Ending.returned (.tuple #[.agg #[.int .u64 (hI 0#128), .int .u64 (lI 0#128)], .int .i64 12]); rw [hI_zero, lI_zero], bset2 kB (Nat.le_refl _) _ _⟩
    · by_cases h7 : A.length + B.length ≤ 7
      · have HF : Hid (rsB t p = some (A ++ List.replicate (8 - (A.length + B.length)) 0 ++ B)) := by
          show _ = _
          rw [HRS.out hsoA hsoB, if_pos h7]
        have h7' : ¬ (7 : Int) < (A.length : Int) + (B.length : Int) := by omega
        have HBA' := HBA.out A hsoA
        have HBB' := HBB.out B hsoB
        have hbl := fun k hk => (hownB.lt k hk).2
        have hZ3 := hZ.2.2.2.2
        have hua : IntKind.i64.wrap ((A.length : Int) + (B.length : Int)) = (A.length : Int) + (B.length : Int) := by rw [IntKind.wrap_i64]; omega
        have h63a : 0 + A.length ≤ maxLen := by unfold maxLen; omega
        have h47a : (0 + A.length) * 8 ≤ 140737488355328 := by omega
        clear HRN HRM HRS HBA HBB hb3 hsoA hsoB
        go_wp2_with (first | (at_builtin; refine wpList_append_row rfl _ _ 93 rfl w3.heap.size 3 i0 (.int .i64 0) 8 Tryd.underlying93 hi hz0 hz1 hz2 rfl _ _ _ rfl (World.ownsRow_nil _ _ _ _) _ _ _ _ rfl hownA (onesI _) h63a h47a (Nat.le_refl _) ?_; intro ao4 cap4 w4 hown4 hgrow))
        have hgn : w3.grownBy w4 none := hgrow
        clear hgrow hownA
        have hZ4 := hZ.grownBy hgn (by simp)
        have kB4 : Below w.heap.size w w4 := kB.grown hgn kB.size (fun k hk => by cases hk)
        have hB4 : w4.ownsRow w2.heap.size 3 1 (.slice bo B.length bc) B.length (ints B) := hownB.kept hgn (by
          cases h : (Value.slice bo B.length bc).ownBlock with
          | none => exact Or.inl rfl
          | some k => exact Or.inr (by simp))
        have hs4 := hgn.size
        rw [Nat.zero_add, List.nil_append] at hown4
        clear hZ kB hownB hgn
        (try go_wp2)
        go_loopw [8] (fun q wr => ∃ (n j : Nat) (ao : Option Addr) (cp : Nat), q = .slice ao n cp ∧ Hid (n = A.length + j) ∧ n + B.length ≤ 8 ∧ wr.ownsRow w3.heap.size 3 1 (.slice ao n cp) n (ints (A ++ List.replicate j 0)) ∧ wr.ownsRow w2.heap.size 3 1 (.slice bo B.length bc) B.length (ints B) ∧ At wr w.heap.size 0#128 ∧ Below w.heap.size w wr ∧ w3.heap.size ≤ wr.heap.size) (fun q _ => 8 - sliceLen q)
        case atStart => exact ⟨A.length, 0, ao4, cap4, rfl, rfl, by omega, by simpa using hown4, hB4, hZ4, kB4, hs4⟩
        case round =>
          clear hown4 hB4 hZ4 kB4 hs4
          obtain ⟨n, j, ao6, cp6, rfl, HN, hn8, hown, hownB, hZ, kB, hw3⟩ := hrel
          have hun : IntKind.i64.wrap ((n : Int) + (B.length : Int)) = (n : Int) + (B.length : Int) := by rw [IntKind.wrap_i64]; omega
          have hkBs := kB.size
          by_cases hlt : n + B.length < 8
          · have hlt2 : (n : Int) + (B.length : Int) < 8 := by omega
            have h63 : n + 1 ≤ maxLen := by unfold maxLen; omega
            have h47 : (n + 1) * 8 ≤ 140737488355328 := by omega
            go_wp2_with (first | (at_builtin; refine wpList_append_lies _ rfl _ _ 93 rfl w3.heap.size 3 i0 (.int .i64 0) 1 8 Tryd.underlying93 hi hz0 hz1 hz2 rfl (by decide) _ _ _ rfl (hown.alloc _) ⟨wr.heap.size, 0, none⟩ 1 1 [.int .i64 0] rfl rfl (newsS _ _ _) (oneI _) (by decide) h63 h47 (by simp; omega) _ rfl ?_; intro g5 cap5 w5 hown5 hgrow hat hlt5))
            have kB5 : Below w.heap.size w w5 := (kB.alloc hkBs _).grown hgrow (by simp; omega) (fun q hq => by have := (hown.lt q hq).1; omega)
            have hZ5 := (hZ.below (bl1 _ _)).grownBy hgrow (fun e => by have := (hown.lt _ e.symm).1; omega)
            have hB5 := own_apart (hownB.alloc _) hbl (hown.alloc _) hgrow
            have hs5 : w3.heap.size ≤ w5.heap.size := by have := hgrow.size; simp at this; omega
            clear hgrow hat
            go_roundw
            case rel => exact ⟨n + 1, j + 1, some ⟨g5, 0, none⟩, cap5, rfl, by show _ = _; have := HN.out; omega, by omega, by rw [rep_ints]; exact hown5, hB5, hZ5, kB5, hs5⟩
            case measure => simp [sliceLen]; omega
          · have hlt2 : ¬ (n : Int) + (B.length : Int) < 8 := by omega
            have h63b : n + B.length ≤ maxLen := by unfold maxLen; omega
            have h47b : (n + B.length) * 8 ≤ 140737488355328 := by omega
            have HJ : Hid (j = 8 - (A.length + B.length)) := by show _ = _; have := HN.out; omega
            go_wp2_with (first | (at_builtin; refine wpList_append_row rfl _ _ 93 rfl w3.heap.size 3 i0 (.int .i64 0) 8 Tryd.underlying93 hi hz0 hz1 hz2 rfl _ _ _ rfl hown _ _ _ _ rfl hownB (onesI _) h63b h47b hw3 ?_; intro ao5 cap5 w7 hown5 hgrow))
            have kB5 : Below w.heap.size w w7 := kB.grown hgrow hkBs (fun q hq => by have := (hown.lt q hq).1; omega)
            have hZ5 := hZ.grownBy hgrow (fun e => by have := (hown.lt _ e.symm).1; omega)
            have e8 : n + B.length = 8 := by omega
            rw [e8] at hown5
            try rw [e8]
            clear hgrow hZ kB hown hownB
            obtain ⟨g, c2, hv, hgl, hgr⟩ := hown5.form (by omega)
            have hv2 : ao5 = some ⟨g, 0, none⟩ ∧ cap5 = c2 := by
              injection hv with e1 e2 e3; exact ⟨e1, e3⟩
            obtain ⟨rfl, rfl⟩ := hv2
            obtain ⟨L, HLL⟩ : ∃ L : List Int, Hid (A ++ List.replicate j 0 ++ B = L) := ⟨A ++ List.replicate j 0 ++ B, rfl⟩
            have hown6 : w7.ownsRow w3.heap.size 3 1 (.slice (some ⟨g, 0, none⟩) 8 cap5) 8 (ints L) := by
              rw [← HLL.out]; unfold ints; rw [List.map_append]; exact hown5
            have h8 : L.length = 8 := by
              rw [← HLL.out]; simp; have := HN.out; omega
            have HXX : Hid (outV (rsB t p) = gW L 8 ∧ outE (rsB t p) = 0) := by
              show _ ∧ _
              rw [HF.out, ← HJ.out, HLL.out]; exact ⟨rfl, rfl⟩
            have hrow : Hid (∀ j, j < 8 → w7.cell? ⟨g, j, none⟩ = some (.int .i64 (L.getD j 0))) := fun j hj => row_int hown6 h8.symm j hj
            have HB : Hid (∀ j, j < 8 → 0 ≤ L.getD j 0 ∧ L.getD j 0 ≤ 65535) := fun i hi => by
              have hm : L.getD i 0 ∈ L := by rw [List.getD_eq_getElem?_getD, List.getElem?_eq_getElem (by omega)]; exact List.getElem_mem _
              rw [← HLL.out] at hm
              rw [← HLL.out]
              simp only [List.mem_append, List.mem_replicate] at hm
              rcases hm with (hm | hm) | hm
              · exact HBA' _ hm
              · rw [hm.2]; omega
              · exact HBB' _ hm
            have hgl' := (hown6.lt g rfl).2
            have hgB : w.heap.size + 1 ≤ g := by have := (hown6.lt g rfl).1; omega
            clear hown5 hown6 hv hgl hgr HF HJ HN HLL HBA' HBB' hbl
            have hZ := hZ5
            have kB := kB5
            clear hZ5 kB5
            go_wp2
            go_loopw [17] (fun q wr => ∃ k : Nat, k ≤ 8 ∧ q = .int .i64 k ∧ At wr w7.heap.size (gW L k) ∧ Hid (∀ j, j < 8 → wr.cell? ⟨g, j, none⟩ = some (.int .i64 (L.getD j 0))) ∧ At wr w.heap.size 0#128 ∧ Below w.heap.size w wr) (fun q _ => 8 - (intOf q).toNat)
            case atStart =>
              refine ⟨0, by omega, rfl, ?_, fun j hj => keepc (bl1 _ _) (hrow.out j hj), hZ.below (bl1 _ _), kB.alloc kB.size _⟩
              show At _ _ 0#128
              refine ⟨?_, ?_, ?_, ?_, ?_⟩ <;> simp [go_sem, hI_zero, lI_zero]
            case round =>
              have hZW := hZ.2.2.2.2
              clear hrow hZ kB
              obtain ⟨k, hk, rfl, X, hrow, hZ, kB⟩ := hrel
              by_cases hlt : k < 8
              · have hk2 : (k : Int) < 8 := by omega
                obtain ⟨v0, v1⟩ := HB.out k hlt
                have hc := hrow.out k hlt
                have KS : ∀ w, Calls Tryd.prog 66 #[.agg #[.int .u64 (hI (gW L k)), .int .u64 (lI (gW L k))], .int .i64 16] w fun e w' => e = .returned (.agg #[.int .u64 (hI (gW L k <<< 16)), .int .u64 (lI (gW L k <<< 16))]) ∧ Below w.heap.size w w' := fun w => rshl_any (gW L k) 16 w
                have HW : Hid (gW L (k + 1) = (gW L k <<< 16) ||| mkW 0 (L.getD k 0)) := rfl
                obtain ⟨o1, o2⟩ := orLo (gW L k <<< 16) (L.getD k 0) v0 v1
                rw [← HW.out] at o1 o2
                obtain ⟨z, HZ⟩ : ∃ z, Hid (gW L (k + 1) = z) := ⟨_, rfl⟩
                rw [HZ.out] at o1 o2
                generalize gW L k <<< 16 = y at *
                generalize gW L k = x at *
                generalize L.getD k 0 = v at *
                have hcv : IntKind.u64.wrap v = v := by simp [IntKind.wrap, IntKind.bits, IntKind.signed]; omega
                have HO2 : Hid (hI y = hI z) := o2
                clear HW o2
                obtain ⟨x0, x1, x2, x3, x4⟩ := id X
                go_wp2_with fail
                refine (KS _).mono ?_
                rintro e w5 ⟨rfl, hb5⟩
                clear KS x0 x1 x2 x3 x4
                have hs5 := hb5.size
                have X5 := (X.below hb5).set y
                have hZ5 := (hZ.below hb5).other (.int .u64 (hI y)) (.int .u64 (lI y)) (C := w7.heap.size) (by omega)
                have kB5 := bset2 (keepb hb5 kB) (C := w7.heap.size) (by omega) (.int .u64 (hI y)) (.int .u64 (lI y))
                have hrow5 : Hid (∀ j, j < 8 → ((w5.setCell ⟨w7.heap.size, 0, none⟩ (.int .u64 (hI y))).setCell ⟨w7.heap.size, 1, none⟩ (.int .u64 (lI y))).cell? ⟨g, j, none⟩ = some (.int .i64 (L.getD j 0))) := fun j hj => cell_wother (cell_wother (keepc hb5 (hrow.out j hj)) (by omega) _) (by omega) _
                have hc5 := cell_wother (p := 1) (cell_wother (p := 0) (keepc hb5 hc) (show ¬ w7.heap.size = g by omega) (.int .u64 (hI y))) (show ¬ w7.heap.size = g by omega) (.int .u64 (lI y))
                obtain ⟨y0, y1, y2, y3, y4⟩ := X.below hb5
                obtain ⟨x0, x1, x2, x3, x4⟩ := id X5
                clear X hZ kB hb5 hrow hc
                go_wp2_with fail
                go_region
                all_goals
                  go_wp2
                  go_roundw
                  case rel => exact ⟨k + 1, by omega, by go_num, by rw [HZ.out]; exact (X5.wset z HO2.out).drew, fun j hj => cell_wother (hrow5.out j hj) (by omega) _, (hZ5.wother (by omega) _ _).drew, (kB5.setCell (p := ⟨w7.heap.size, 1, none⟩) (show w.heap.size ≤ w7.heap.size by omega) _).drew⟩
                  case measure => simp [intOf]; omega
              · have hk8 : k = 8 := by omega
                subst hk8
                obtain ⟨x, HXE⟩ : ∃ x, Hid (gW L 8 = x) := ⟨_, rfl⟩
                rw [HXE.out] at X
                obtain ⟨x0, x1, x2, x3, x4⟩ := id X
                obtain ⟨z0, z1, z2, z3, z4⟩ := id hZ
                clear hrow HB
                go_wp2
                exact bodyPost_ret (v := .tuple #[.agg #[.int .u64 (hI x), .int .u64 (lI x)], .int .i64 0]) (by simp [results, Tryd.results37, go_sem, *]) rfl ⟨by rw [HXX.out.1, HXX.out.2, HXE.out], bset2 kB (Nat.le_refl _) _ _⟩
      · have HF : Hid (rsB t p = none) := by
          show _ = _
          rw [HRS.out hsoA hsoB, if_neg h7]
        have h7' : (7 : Int) < (A.length : Int) + (B.length : Int) := by omega
        have la := HLA.out A hsoA
        have lb := HLB.out B hsoB
        have hua : IntKind.i64.wrap ((A.length : Int) + (B.length : Int)) = (A.length : Int) + (B.length : Int) := by rw [IntKind.wrap_i64]; omega
        clear HRN HRM HRS HBA HBB hb3 hownA hownB
        obtain ⟨z0, z1, z2, z3, z4⟩ := hZ
        go_wp2
        exact bodyPost_ret (v := .tuple #[.agg #[.int .u64 0, .int .u64 0], .int .i64 12]) (by simp [results, Tryd.results37, go_sem, *]) rfl ⟨by rw [HF.out]; show _ = Ending.returned (.tuple #[.agg #[.int .u64 (hI 0#128), .int .u64 (lI 0#128)], .int .i64 12]); rw [hI_zero, lI_zero], bset2 kB (Nat.le_refl _) _ _⟩
end Go.Proofs.YtpchhfhdepkbcabDoor
/-
  The law AddrReads, walked.
-/
namespace Go.Proofs.YtpchhfhdepkbcabDoor
open Go.RowKit
set_option linter.unusedSimpArgs false
set_option linter.unusedVariables false

theorem rparse2_any (F : Int) (t : ByteArray) (w : World) (hs : t.size ≤ maxLen) :
    Calls Tryd.prog 37 #[.int .i64 F, .string t] w fun e w' => e = .returned (.tuple #[.agg #[.int .u64 (hI (rpV F t)), .int .u64 (lI (rpV F t))], .int .i64 (rpE F t)]) ∧ Below w.heap.size w w' := by
  unfold rpV rpE
  cases hf : fam F
  · simp only [true_or, if_true, hI_zero, lI_zero]
    exact rparse_fam F t w hf
  · simp only [Bool.true_eq_false, false_or, if_false]
    by_cases hl : 60 < t.size
    · simp only [hl, if_true, hI_zero, lI_zero]
      exact rparse_long F t w hf hs hl
    · simp only [hl, if_false]
      rcases fam_ways F hf with rfl | rfl
      · simp only [if_true]
        exact rparse_four t w (by omega)
      · simp only [show ¬ (128 : Int) = 32 by decide, if_false]
        unfold rsO
        by_cases hg : gapV t < 0
        · rw [if_pos hg]
          exact rparse_sixA t w (by omega) hg
        · rw [if_neg hg]
          exact rparse_sixB t w (gapV t).toNat (by omega) (by omega)

end Go.Proofs.YtpchhfhdepkbcabDoor
/-
  Plain numbers, more: how many noughts stand first; what a stretch of bits is; a stretch laid in bit by bit.
-/
namespace Go.Proofs.YtpchhfhdepkbcabDoor
open Go.RowKit
set_option linter.unusedSimpArgs false
set_option linter.unusedVariables false

/-- How many noughts stand first. -/
def leadN (z : BitVec 128) : Nat := if z.toNat = 0 then 128 else 127 - z.toNat.log2
theorem lead_char (z : BitVec 128) (k : Nat) (hk : k ≤ 128) (h1 : z.toNat < 2 ^ (128 - k)) (h2 : k = 128 ∨ 2 ^ (127 - k) ≤ z.toNat) : leadN z = k := by
  unfold leadN
  split
  · rename_i h
    rcases h2 with h2 | h2
    · exact h2.symm
    · rw [h] at h2; have := Nat.two_pow_pos (127 - k); omega
  · rename_i h
    have hlt : z.toNat.log2 < 128 - k := (Nat.log2_lt h).mpr h1
    rcases h2 with h2 | h2
    · subst h2; simp at hlt
    · have := (Nat.le_log2 h).mpr h2; omega
theorem bit_step (z : BitVec 128) (k : Nat) (hk : k < 128) (h : z.toNat < 2 ^ (128 - k)) : (z.getLsbD (127 - k) = false → z.toNat < 2 ^ (128 - (k + 1))) ∧ (z.getLsbD (127 - k) = true → 2 ^ (127 - k) ≤ z.toNat) := by
  have e : 128 - k = (127 - k) + 1 := by omega
  have e2 : 128 - (k + 1) = 127 - k := by omega
  rw [e, Nat.pow_succ] at h
  rw [e2]
  have t : z.getLsbD (127 - k) = decide (z.toNat / 2 ^ (127 - k) % 2 = 1) := by
    unfold BitVec.getLsbD; rw [Nat.testBit_eq_decide_div_mod_eq]
  have hd : z.toNat / 2 ^ (127 - k) < 2 := by
    apply Nat.div_lt_of_lt_mul; omega
  constructor
  · intro hf
    rw [t] at hf
    have hq := of_decide_eq_false hf
    have : z.toNat / 2 ^ (127 - k) = 0 := by
      generalize z.toNat / 2 ^ (127 - k) = q at hq hd
      omega
    rcases Nat.div_eq_zero_iff.mp this with h0 | h0
    · have := Nat.two_pow_pos (127 - k); omega
    · exact h0
  · intro hf
    rw [t] at hf; simp at hf
    apply Classical.byContradiction; intro hn
    have : z.toNat / 2 ^ (127 - k) = 0 := Nat.div_eq_of_lt (by omega)
    omega
theorem bitZ_eq (x y : BitVec 128) (k : Nat) (hk : k < 128) : bitZ x (k : Int) = bitZ y (k : Int) ↔ (x ^^^ y).getLsbD (127 - k) = false := by
  have e : (127 - (k : Int)).toNat = 127 - k := by omega
  unfold bitZ
  rw [bitB_in x k (by omega) (by omega), bitB_in y k (by omega) (by omega), e, BitVec.getLsbD_xor]
  cases x.getLsbD (127 - k) <;> cases y.getLsbD (127 - k) <;> simp

/-- Is there such a stretch? -/
def fitB (f n : Int) : Bool := decide (0 ≤ f) && decide (f ≤ 128) && decide (0 ≤ n) && decide (n ≤ 128 - f)
theorem fitB_t {f n : Int} (h : fitB f n = true) : 0 ≤ f ∧ f ≤ 128 ∧ 0 ≤ n ∧ n ≤ 128 - f := by
  unfold fitB at h; simp at h; omega
theorem lead_wide (v : BitVec 128) (n : Int) (h0 : 0 ≤ n) (h1 : n ≤ 128) : ((leadN v : Nat) : Int) < 128 - n ↔ ¬ v >>> n.toNat = 0#128 := by
  have hv := v.isLt
  have key : v >>> n.toNat = 0#128 ↔ v.toNat < 2 ^ n.toNat := by
    constructor
    · intro h
      have := congrArg BitVec.toNat h
      rw [BitVec.toNat_ushiftRight, Nat.shiftRight_eq_div_pow] at this
      have this2 : v.toNat / 2 ^ n.toNat = 0 := this
      rcases Nat.div_eq_zero_iff.mp this2 with h0 | h0
      · have := Nat.two_pow_pos n.toNat; omega
      · exact h0
    · intro h
      apply BitVec.eq_of_toNat_eq
      rw [BitVec.toNat_ushiftRight, Nat.shiftRight_eq_div_pow, Nat.div_eq_of_lt h]; rfl
  rw [key]
  unfold leadN
  split
  · rename_i h
    rw [h]; have := Nat.two_pow_pos n.toNat
    constructor
    · intro; omega
    · intro; omega
  · rename_i h
    have hl : v.toNat.log2 < 128 := (Nat.log2_lt h).mpr hv
    have := Nat.log2_lt (k := n.toNat) h
    constructor
    · intro g g2
      have := this.mpr g2; omega
    · intro g
      have : ¬ v.toNat.log2 < n.toNat := fun q => g (this.mp q)
      omega

/-- The stretch from f on, n bits long, as a number. -/
def readW (x : BitVec 128) (f n : Int) : BitVec 128 := (x <<< f.toNat) >>> (128 - n).toNat
/-- x with v laid into that stretch. -/
def withW (x : BitVec 128) (f n : Int) (v : BitVec 128) : BitVec 128 := x ^^^ ((readW x f n ^^^ v) <<< (128 - f - n).toNat)
theorem readW_bit (x : BitVec 128) (f n : Int) (h : fitB f n = true) (j : Nat) : (readW x f n).getLsbD j = (decide (j < n.toNat) && x.getLsbD ((128 - f - n).toNat + j)) := by
  obtain ⟨h0, h1, h2, h3⟩ := fitB_t h
  unfold readW
  simp only [BitVec.getLsbD_ushiftRight, BitVec.getLsbD_shiftLeft]
  by_cases c : j < n.toNat
  · have a : (128 - n).toNat + j < 128 := by omega
    have b : ¬ (128 - n).toNat + j < f.toNat := by omega
    have e : (128 - n).toNat + j - f.toNat = (128 - f - n).toNat + j := by omega
    simp only [a, b, e, c, decide_true, decide_false, Bool.true_and, Bool.not_false]
  · have a : ¬ (128 - n).toNat + j < 128 := by omega
    simp only [a, c, decide_false, Bool.false_and]
theorem small_bit (v : BitVec 128) (n : Nat) (h : v >>> n = 0#128) (j : Nat) (hj : n ≤ j) : v.getLsbD j = false := by
  have := congrArg (fun z => z.getLsbD (j - n)) h
  simp only [BitVec.getLsbD_ushiftRight, BitVec.getLsbD_zero] at this
  have e : n + (j - n) = j := by omega
  rw [e] at this; exact this
theorem withW_bit (x v : BitVec 128) (f n : Int) (h : fitB f n = true) (hv : v >>> n.toNat = 0#128) (j : Nat) (hj : j < 128) :
    (withW x f n v).getLsbD j = if (128 - f - n).toNat ≤ j ∧ j < (128 - f - n).toNat + n.toNat then v.getLsbD (j - (128 - f - n).toNat) else x.getLsbD j := by
  obtain ⟨h0, h1, h2, h3⟩ := fitB_t h
  unfold withW
  simp only [BitVec.getLsbD_xor, BitVec.getLsbD_shiftLeft, hj, decide_true, Bool.true_and]
  by_cases c : j < (128 - f - n).toNat
  · have d : ¬ ((128 - f - n).toNat ≤ j ∧ j < (128 - f - n).toNat + n.toNat) := by omega
    simp only [c, d, decide_true, Bool.not_true, Bool.false_and, Bool.xor_false, if_false]
  · rw [readW_bit x f n h]
    have e : (128 - f - n).toNat + (j - (128 - f - n).toNat) = j := by omega
    rw [e]
    by_cases d : j < (128 - f - n).toNat + n.toNat
    · have a : (128 - f - n).toNat ≤ j ∧ j < (128 - f - n).toNat + n.toNat := by omega
      have b : j - (128 - f - n).toNat < n.toNat := by omega
      simp only [a, b, c, and_self, if_true, decide_true, decide_false, Bool.not_false, Bool.true_and]
      cases x.getLsbD j <;> simp
    · have a : ¬ ((128 - f - n).toNat ≤ j ∧ j < (128 - f - n).toNat + n.toNat) := by omega
      have b : ¬ j - (128 - f - n).toNat < n.toNat := by omega
      rw [small_bit v n.toNat hv (j - (128 - f - n).toNat) (by omega)]
      simp only [a, b, if_false, decide_false, Bool.false_and, Bool.xor_false, Bool.and_false]
/-- The first k bits of the stretch are laid in. -/
def foldStepW (x v : BitVec 128) (f n : Int) : Nat → BitVec 128
  | 0 => x
  | k + 1 => putW (foldStepW x v f n k) (f + k) (bitZ v (128 - n + k))
theorem stepW_bit (x v : BitVec 128) (f n : Int) (h : fitB f n = true) (k : Nat) (hk : (k : Int) ≤ n) (j : Nat) (hj : j < 128) :
    (foldStepW x v f n k).getLsbD j = if (128 - f).toNat - k ≤ j ∧ j < (128 - f).toNat then v.getLsbD (j - (128 - f - n).toNat) else x.getLsbD j := by
  obtain ⟨h0, h1, h2, h3⟩ := fitB_t h
  induction k with
  | zero =>
    have : ¬ ((128 - f).toNat - 0 ≤ j ∧ j < (128 - f).toNat) := by omega
    rw [if_neg this]; rfl
  | succ k ih =>
    unfold foldStepW
    rw [putW_bit _ _ _ (bitZ_01 _ _) (by omega) (by omega) _ hj, ih (by omega)]
    have t : decide (bitZ v (128 - n + k) = 1) = v.getLsbD (n - 1 - k).toNat := by
      unfold bitZ
      rw [bitB_in v _ (by omega) (by omega)]
      have e : (127 - (128 - n + (k : Int))).toNat = (n - 1 - k).toNat := by omega
      rw [e]; cases v.getLsbD (n - 1 - k).toNat <;> simp
    rw [t]
    by_cases c : j = (127 - (f + k)).toNat
    · have a : (128 - f).toNat - (k + 1) ≤ j ∧ j < (128 - f).toNat := by omega
      have e : (n - 1 - k).toNat = j - (128 - f - n).toNat := by omega
      rw [if_pos c, if_pos a, e]
    · rw [if_neg c]
      by_cases a : (128 - f).toNat - k ≤ j ∧ j < (128 - f).toNat
      · rw [if_pos a, if_pos (by omega)]
      · rw [if_neg a, if_neg (by omega)]
theorem step_with (x v : BitVec 128) (f n : Int) (h : fitB f n = true) (hv : v >>> n.toNat = 0#128) (k : Nat) (hk : (k : Int) = n) : foldStepW x v f n k = withW x f n v := by
  obtain ⟨h0, h1, h2, h3⟩ := fitB_t h
  apply BitVec.eq_of_getLsbD_eq; intro j hj
  rw [stepW_bit x v f n h k (by omega) j hj, withW_bit x v f n h hv j hj]
  by_cases a : (128 - f).toNat - k ≤ j ∧ j < (128 - f).toNat
  · rw [if_pos a, if_pos (by omega)]
  · rw [if_neg a, if_neg (by omega)]
end Go.Proofs.YtpchhfhdepkbcabDoor
/-
  Plain numbers: the sum of a number's bits, as it is reckoned by halves.
-/
namespace Go.Proofs.YtpchhfhdepkbcabDoor
open Go.RowKit
set_option linter.unusedSimpArgs false
set_option linter.unusedVariables false

def ocB (b : Nat) : Nat := b % 2 + b / 2 % 2 + b / 4 % 2 + b / 8 % 2 + b / 16 % 2 + b / 32 % 2 + b / 64 % 2 + b / 128 % 2
def bm (f : Nat → Nat) : Nat → Nat → Nat
  | 0, _ => 0
  | k + 1, x => f (x % 256) + 256 * bm f k (x / 256)
def mm (m : Nat) : Nat → Nat
  | 0 => 0
  | k + 1 => m + 256 * mm m k
def oc : Nat → Nat → Nat
  | 0, _ => 0
  | k + 1, x => ocB (x % 256) + oc k (x / 256)
def f1 (b : Nat) : Nat := ((b / 2) &&& 85) + (b &&& 85)
def f2 (b : Nat) : Nat := ((b / 4) &&& 51) + (b &&& 51)
theorem and_split (a m M : Nat) (hm : m < 256) : a &&& (m + 256 * M) = ((a % 256) &&& m) + 256 * ((a / 256) &&& M) := by
  have h1 : (a &&& (m + 256 * M)) % 2 ^ 8 = (a % 2 ^ 8) &&& ((m + 256 * M) % 2 ^ 8) := Nat.and_mod_two_pow
  have h2 : (a &&& (m + 256 * M)) / 2 ^ 8 = (a / 2 ^ 8) &&& ((m + 256 * M) / 2 ^ 8) := Nat.and_div_two_pow
  have e1 : (m + 256 * M) % 2 ^ 8 = m := by omega
  have e2 : (m + 256 * M) / 2 ^ 8 = M := by omega
  rw [e1] at h1
  rw [e2] at h2
  have e3 : (2 : Nat) ^ 8 = 256 := by decide
  rw [e3] at h1 h2
  have := Nat.div_add_mod (a &&& (m + 256 * M)) 256
  omega
set_option maxRecDepth 100000 in
theorem b1 : ∀ b : Fin 256, ∀ c : Fin 2, (b.val / 2 + 128 * c.val) &&& 85 = (b.val / 2) &&& 85 := by decide +kernel
theorem b2 : ∀ b : Fin 256, ∀ c : Fin 4, (b.val / 4 + 64 * c.val) &&& 51 = (b.val / 4) &&& 51 := by decide +kernel
theorem b3 : ∀ b : Fin 256, ∀ c : Fin 5, (f2 (f1 b.val) / 16 + 16 * c.val + f2 (f1 b.val)) &&& 15 = ocB b.val := by decide +kernel
theorem b4 : ∀ b : Fin 256, f1 b.val < 256 ∧ f2 (f1 b.val) % 16 ≤ 4 ∧ f2 (f1 b.val) / 16 ≤ 4 ∧ ocB b.val ≤ 8 ∧ ocB (255 - b.val) + ocB b.val = 8 := by decide +kernel
theorem l1 (k : Nat) : ∀ x, ((x / 2) &&& mm 85 k) + (x &&& mm 85 k) = bm f1 k x := by
  induction k with
  | zero => intro x; simp [mm, bm]
  | succ k ih =>
    intro x
    simp only [mm, bm]
    rw [and_split _ 85 _ (by decide), and_split _ 85 _ (by decide)]
    have e1 : (x / 2) % 256 = (x % 256) / 2 + 128 * (x / 256 % 2) := by omega
    have e2 : x / 2 / 256 = x / 256 / 2 := by omega
    have hb := b1 ⟨x % 256, by omega⟩ ⟨x / 256 % 2, by omega⟩
    have := ih (x / 256)
    rw [e1, e2]
    simp only at hb
    rw [hb]
    have hf : f1 (x % 256) = ((x % 256 / 2) &&& 85) + ((x % 256) &&& 85) := rfl
    omega
theorem l2 (k : Nat) : ∀ x, ((x / 4) &&& mm 51 k) + (x &&& mm 51 k) = bm f2 k x := by
  induction k with
  | zero => intro x; simp [mm, bm]
  | succ k ih =>
    intro x
    simp only [mm, bm]
    rw [and_split _ 51 _ (by decide), and_split _ 51 _ (by decide)]
    have e1 : (x / 4) % 256 = (x % 256) / 4 + 64 * (x / 256 % 4) := by omega
    have e2 : x / 4 / 256 = x / 256 / 4 := by omega
    have hb := b2 ⟨x % 256, by omega⟩ ⟨x / 256 % 4, by omega⟩
    have := ih (x / 256)
    rw [e1, e2]
    simp only at hb
    rw [hb]
    have hf : f2 (x % 256) = ((x % 256 / 4) &&& 51) + ((x % 256) &&& 51) := rfl
    omega
theorem bm_bm (k : Nat) : ∀ x, bm f2 k (bm f1 k x) = bm (fun b => f2 (f1 b)) k x := by
  induction k with
  | zero => intro x; rfl
  | succ k ih =>
    intro x
    have h := (b4 ⟨x % 256, by omega⟩).1
    simp only at h
    simp only [bm]
    have e1 : (f1 (x % 256) + 256 * bm f1 k (x / 256)) % 256 = f1 (x % 256) := by omega
    have e2 : (f1 (x % 256) + 256 * bm f1 k (x / 256)) / 256 = bm f1 k (x / 256) := by omega
    rw [e1, e2, ih]
theorem bm_mod (k : Nat) (x : Nat) : bm (fun b => f2 (f1 b)) k x % 16 ≤ 4 := by
  cases k with
  | zero => simp [bm]
  | succ k =>
    have h := (b4 ⟨x % 256, by omega⟩).2.1
    simp only at h
    simp only [bm]; omega
theorem l3 (k : Nat) : ∀ x, (bm (fun b => f2 (f1 b)) k x / 16 + bm (fun b => f2 (f1 b)) k x) &&& mm 15 k = bm ocB k x := by
  induction k with
  | zero => intro x; simp [mm, bm]
  | succ k ih =>
    intro x
    simp only [mm]
    rw [and_split _ 15 _ (by decide)]
    have hm := bm_mod k (x / 256)
    have h := (b4 ⟨x % 256, by omega⟩).2.1
    have h' := (b4 ⟨x % 256, by omega⟩).2.2.1
    have hb := b3 ⟨x % 256, by omega⟩ ⟨bm (fun b => f2 (f1 b)) k (x / 256) % 16, by omega⟩
    have := ih (x / 256)
    simp only [bm] at *
    generalize bm (fun b => f2 (f1 b)) k (x / 256) = y at *
    generalize f2 (f1 (x % 256)) = g at *
    have e1 : ((g + 256 * y) / 16 + (g + 256 * y)) % 256 = g / 16 + 16 * (y % 16) + g := by omega
    have e2 : ((g + 256 * y) / 16 + (g + 256 * y)) / 256 = y / 16 + y := by omega
    rw [e1, e2, hb, this]
theorem key (n a B z : Nat) (h : a < n) (e : z = a + n * B) : z / n = B := by
  rw [e, Nat.add_mul_div_left _ _ (by omega), Nat.div_eq_of_lt h]; omega
theorem add2 (a b R S : Nat) : (a + 256 * R) + (b + 256 * S) = (a + b) + 256 * (R + S) := by omega
theorem fold8 (q0 q1 q2 q3 q4 q5 q6 q7 : Nat) (c : q0 ≤ 8 ∧ q1 ≤ 8 ∧ q2 ≤ 8 ∧ q3 ≤ 8 ∧ q4 ≤ 8 ∧ q5 ≤ 8 ∧ q6 ≤ 8 ∧ q7 ≤ 8) (z z4 z5 z6 : Nat) (hz : z = q0 + 256 * (q1 + 256 * (q2 + 256 * (q3 + 256 * (q4 + 256 * (q5 + 256 * (q6 + 256 * q7)))))))
    (h4 : z4 = z + z / 256) (h5 : z5 = z4 + z4 / 65536) (h6 : z6 = z5 + z5 / 4294967296) : z6 % 128 = q0 + q1 + q2 + q3 + q4 + q5 + q6 + q7 := by
  have k4 : z / 256 = q1 + 256 * (q2 + 256 * (q3 + 256 * (q4 + 256 * (q5 + 256 * (q6 + 256 * q7))))) := key 256 q0 _ z (by omega) hz
  have t4 : z4 = (q0 + q1) + 256 * ((q1 + q2) + 256 * ((q2 + q3) + 256 * ((q3 + q4) + 256 * ((q4 + q5) + 256 * ((q5 + q6) + 256 * (q6 + 256 * q7 + q7)))))) := by
    rw [h4, k4, hz]; simp only [add2]
  have k5 : z4 / 65536 = (q2 + q3) + 256 * ((q3 + q4) + 256 * ((q4 + q5) + 256 * ((q5 + q6) + 256 * (q6 + 256 * q7 + q7)))) := by
    refine key 65536 ((q0 + q1) + 256 * (q1 + q2)) _ z4 (by clear hz h4 h5 h6 k4 t4; omega) ?_
    rw [t4]; generalize (q2 + q3) + 256 * ((q3 + q4) + 256 * ((q4 + q5) + 256 * ((q5 + q6) + 256 * (q6 + 256 * q7 + q7)))) = B
    clear hz h4 h5 h6 k4 t4; omega
  have t5 : z5 = (q0 + q1 + (q2 + q3)) + 256 * ((q1 + q2 + (q3 + q4)) + 256 * ((q2 + q3 + (q4 + q5)) + 256 * ((q3 + q4 + (q5 + q6)) + 256 * ((q4 + q5) + 256 * ((q5 + q6) + 256 * (q6 + 256 * q7 + q7)) + (q6 + 256 * q7 + q7))))) := by
    rw [h5, k5, t4]; simp only [add2]
  have k6 : z5 / 4294967296 = (q4 + q5) + 256 * ((q5 + q6) + 256 * (q6 + 256 * q7 + q7)) + (q6 + 256 * q7 + q7) := by
    refine key 4294967296 ((q0 + q1 + (q2 + q3)) + 256 * ((q1 + q2 + (q3 + q4)) + 256 * ((q2 + q3 + (q4 + q5)) + 256 * (q3 + q4 + (q5 + q6))))) _ z5 (by clear hz h4 h5 h6 k4 t4 k5 t5; omega) ?_
    rw [t5]; generalize (q4 + q5) + 256 * ((q5 + q6) + 256 * (q6 + 256 * q7 + q7)) + (q6 + 256 * q7 + q7) = B
    clear hz h4 h5 h6 k4 t4 k5 t5; omega
  rw [h6, k6, t5]
  generalize (q1 + q2 + (q3 + q4)) + 256 * ((q2 + q3 + (q4 + q5)) + 256 * ((q3 + q4 + (q5 + q6)) + 256 * ((q4 + q5) + 256 * ((q5 + q6) + 256 * (q6 + 256 * q7 + q7)) + (q6 + 256 * q7 + q7)))) = B
  generalize (q5 + q6) + 256 * (q6 + 256 * q7 + q7) = C
  clear hz h4 h5 h6 k4 t4 k5 t5 k6
  have e : q0 + q1 + (q2 + q3) + 256 * B + (q4 + q5 + 256 * C + (q6 + 256 * q7 + q7)) = (q0 + q1 + q2 + q3 + q4 + q5 + q6 + q7) + 128 * (2 * (B + C + q7)) := by omega
  rw [e, Nat.add_mul_mod_self_left, Nat.mod_eq_of_lt (by omega)]
theorem bmo_lt (k : Nat) : ∀ x, bm ocB k x ≤ 8 * mm 1 k := by
  induction k with
  | zero => intro x; simp [bm, mm]
  | succ k ih =>
    intro x; have := ih (x / 256); have h1 := (b4 ⟨x % 256, by omega⟩).2.2.2.1; simp only at h1
    simp only [bm, mm]; omega
theorem oc_fold (x : Nat) (z4 z5 z6 : Nat) (h4 : z4 = bm ocB 8 x + bm ocB 8 x / 256) (h5 : z5 = z4 + z4 / 65536) (h6 : z6 = z5 + z5 / 4294967296) : z4 < 18446744073709551616 ∧ z5 < 18446744073709551616 ∧ z6 < 9223372036854775808 ∧ z6 % 128 = oc 8 x := by
  have hb := bmo_lt 8 x
  have e1 : mm 1 8 = 72340172838076673 := by decide
  rw [e1] at hb
  refine ⟨by omega, by omega, by omega, ?_⟩
  have c : ∀ y, ocB (y % 256) ≤ 8 := fun y => (b4 ⟨y % 256, by omega⟩).2.2.2.1
  have := fold8 (ocB (x % 256)) (ocB (x / 256 % 256)) (ocB (x / 256 / 256 % 256)) (ocB (x / 256 / 256 / 256 % 256)) (ocB (x / 256 / 256 / 256 / 256 % 256)) (ocB (x / 256 / 256 / 256 / 256 / 256 % 256)) (ocB (x / 256 / 256 / 256 / 256 / 256 / 256 % 256)) (ocB (x / 256 / 256 / 256 / 256 / 256 / 256 / 256 % 256)) ⟨c _, c _, c _, c _, c _, c _, c _, c _⟩ (bm ocB 8 x) z4 z5 z6 (by simp only [bm]; rfl) h4 h5 h6
  rw [this]; simp only [oc]; omega
theorem oc_le (k : Nat) : ∀ x, oc k x ≤ 8 * k := by
  induction k with
  | zero => intro x; simp [oc]
  | succ k ih => intro x; have := ih (x / 256); have h := (b4 ⟨x % 256, by omega⟩).2.2.2.1; simp only at h; simp only [oc]; omega
theorem oc_not (k : Nat) : ∀ x, x < 256 ^ k → oc k (256 ^ k - 1 - x) + oc k x = 8 * k := by
  induction k with
  | zero => intro x _; simp [oc]
  | succ k ih =>
    intro x hx
    have hp : 0 < 256 ^ k := Nat.pow_pos (by decide)
    have hx2 : x / 256 < 256 ^ k := by rw [Nat.div_lt_iff_lt_mul (by decide)]; rw [Nat.pow_succ] at hx; omega
    have := ih (x / 256) hx2
    have hb := (b4 ⟨x % 256, by omega⟩).2.2.2.2
    simp only at hb
    simp only [oc]
    rw [Nat.pow_succ]
    generalize 256 ^ k = p at *
    have e1 : (p * 256 - 1 - x) % 256 = 255 - x % 256 := by omega
    have e2 : (p * 256 - 1 - x) / 256 = p - 1 - x / 256 := by omega
    rw [e1, e2]; omega
end Go.Proofs.YtpchhfhdepkbcabDoor
