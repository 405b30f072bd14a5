/-
  Part 11 of the proof: 1 texts, one behind the other.
-/
import Derived.Test.YtpiicdpipjjenaaGreatDoorPart4
namespace Go.Proofs.YtpiicdpipjjenaaGreatDoor
open Go.RowKit
set_option linter.unusedSimpArgs false
set_option linter.unusedVariables false

theorem fnd_new (w : World) (B : Nat) (T : TypeId) (h : B = w.heap.size) (p : Int) : Fnd (w.alloc (.cells #[.int .u64 0, .int .u64 0, .int .u64 0, .int .u64 0, .int .u64 0, .int .u64 0, .int .u64 0, .int .u64 0, .int .i64 0, .int .i64 p] T)) B (fun _ => 0) 0 p := by
  subst h
  refine ⟨fun i hi => ?_, ?_, ?_, ?_, ?_, ?_⟩
  · rcases (by omega : i = 0 ∨ i = 1 ∨ i = 2 ∨ i = 3 ∨ i = 4 ∨ i = 5 ∨ i = 6 ∨ i = 7) with rfl | rfl | rfl | rfl | rfl | rfl | rfl | rfl <;> simp [go_sem]
  all_goals simp [go_sem]
theorem Fnd.gap {w : World} {B : Nat} {f : Nat → Int} {c : Nat} {p : Int} (h : Fnd w B f c p) (q : Int) : Fnd (w.setCell ⟨B, 9, none⟩ (.int .i64 q)) B f c q := by
  obtain ⟨h1, h2, h3, h4, h5, h6⟩ := h
  refine ⟨fun i hi => ?_, ?_, ?_, ?_, ?_, ?_⟩
  · have n : ¬ i = 9 := by omega
    have n' : ¬ 9 = i := by omega
    obtain ⟨q1, q2⟩ := h1 i hi
    simp [go_sem, *]
  all_goals simp [go_sem, *]

theorem At.lows {w w' : World} {B C : Nat} {x : BitVec 128} (h : At w C x) (hb : Below B w w') (hn : C < B) (hz : B ≤ w.heap.size) : At w' C x := by
  obtain ⟨h0, h1, h2, h3, h4⟩ := h
  have hc := fun (b o : Nat) (hb' : b < B) => hb.cell (p := ⟨b, o, none⟩) hb'
  have hf := fun (b o : Nat) (hb' : b < B) => hb.frozen (p := ⟨b, o, none⟩) hb'
  exact ⟨by rw [hc _ _ hn]; exact h0, by rw [hc _ _ hn]; exact h1, by rw [hf _ _ hn]; exact h2, by rw [hf _ _ hn]; exact h3, Nat.lt_of_lt_of_le h4 hb.size⟩

set_option maxHeartbeats 8000000 in
theorem readSix_any (s : ByteArray) (w : World) (hs : s.size ≤ maxLen) :
    Calls Tryz.prog 114 #[.string s] w fun e w' => e = .returned (.tuple #[.agg #[.int .u64 (hI (six0 s).1), .int .u64 (lI (six0 s).1)], .bool (six0 s).2]) ∧ Below w.heap.size w w' := by
  have K2 := fun w => hasP2 s w hs
  have KG := fun a w => group_any (s.extract a s.size) w (by simp; omega)
  have KQ : ∀ (a : Nat) (w : World), Calls Tryz.prog 127 #[.string (s.extract a s.size), .string ⟨#[58, 58]⟩] w fun e w' => e = .returned (.bool (decide (byteAt s a = 58 ∧ byteAt s (a + 1) = 58))) ∧ w' = w := fun a w => by
    have := hasP2 (s.extract a s.size) w (by simp; omega)
    rw [byteAt_ext, byteAt_ext] at this; exact this
  have KD : ∀ (a : Nat) (w : World), Calls Tryz.prog 127 #[.string (s.extract a s.size), .string ⟨#[46]⟩] w fun e w' => e = .returned (.bool (decide (byteAt s a = 46))) ∧ w' = w := fun a w => by
    have := hasP1 (s.extract a s.size) 46 w (by simp; omega) (by omega) (by omega)
    rw [byteAt_ext] at this; exact this
  have KC : ∀ (a : Nat) (w : World), Calls Tryz.prog 127 #[.string (s.extract a s.size), .string ⟨#[58]⟩] w fun e w' => e = .returned (.bool (decide (byteAt s a = 58))) ∧ w' = w := fun a w => by
    have := hasP1 (s.extract a s.size) 58 w (by simp; omega) (by omega) (by omega)
    rw [byteAt_ext] at this; exact this
  have HS : Hid (s.size ≤ maxLen) := hs
  unfold maxLen at hs
  by_cases hpp : byteAt s 0 = 58 ∧ byteAt s 1 = 58
  · rw [show decide (byteAt s 0 = 58 ∧ byteAt s 1 = 58) = true by simp [hpp]] at K2
    have H0 : Hid (sixR s (s.size + 1) 2 (fun _ => 0) 0 0 = six0 s) := by show _ = _; unfold six0; rw [if_pos hpp]
    have hs2 : 2 ≤ s.size := by
      have := hpp.2
      unfold byteAt at this
      split at this
      · omega
      · omega
    clear hpp
    go_enter Tryz.func114, Tryz.ntmps114
    go_wp2
    go_step3
    go_wp2_with fail
    refine (K2 _).mono ?_
    rintro e w1 ⟨rfl, rfl⟩
    clear K2
    go_wp2
    go_step3
    go_wp2
    go_loopw [5] (fun q wr => ∃ (n a : Nat) (f : Nat → Int) (c : Nat) (p : Int), q = .int .i64 a ∧ a ≤ s.size ∧ s.size < a + n ∧ c ≤ 8 ∧ -1 ≤ p ∧ p ≤ 8 ∧ Hid (∀ i, 0 ≤ f i ∧ f i ≤ 65535) ∧ Hid (sixR s n a f c p = six0 s) ∧ Fnd wr (w.heap.size + 1) f c p ∧ At wr w.heap.size 0#128 ∧ Below w.heap.size w wr) (fun q _ => s.size - (intOf q).toNat)
    case atStart =>
      refine ⟨s.size + 1, 2, fun _ => 0, 0, 0, rfl, hs2, by omega, by omega, by omega, by omega, fun i => ⟨by show (0 : Int) ≤ 0; omega, by show (0 : Int) ≤ 65535; omega⟩, H0, ?_, ?_, bl2 _ _ _⟩
      · exact fnd_new _ _ _ (by simp) _
      · refine ⟨?_, ?_, ?_, ?_, ?_⟩ <;> simp [go_sem, hI_zero, lI_zero]
    case round =>
      obtain ⟨n, a, f, c, p, rfl, ha, hn, hc, hp, hp2, HFB, HR, hG, hZ, hB⟩ := hrel
      obtain ⟨n, rfl⟩ : ∃ k, n = k + 1 := ⟨n - 1, by omega⟩
      have HS1 : Hid _ := sixR_succ s n a f c p
      have HB := hB.size
      have hGB := hG.2.2.2.2.2
      by_cases hlt : a < s.size
      · have hna : ¬ s.size ≤ a := by omega
        have hlt2 : (a : Int) < (s.size : Int) := by omega
        have hle2 : (a : Int) ≤ (s.size : Int) := by omega
        have bd := grp_bd (s.extract a s.size)
        have ez : (s.extract a s.size).size = s.size - a := by simp
        rw [ez] at bd
        have HT : Hid ((s.extract a s.size).size ≤ maxLen) := by
          show _ ≤ _
          have := HS.out; omega
        have qbA := quadA_bd (s.extract a s.size)
        have qbB := quadB_bd (s.extract a s.size)
        have HFB2 : Hid (∀ i, 0 ≤ upd (upd f c (quadA (s.extract a s.size))) (c + 1) (quadB (s.extract a s.size)) i ∧ upd (upd f c (quadA (s.extract a s.size))) (c + 1) (quadB (s.extract a s.size)) i ≤ 65535) := by
          intro i
          have := HFB.out i
          unfold upd; split
          · exact qbB
          · split
            · exact qbA
            · exact this
        have KGa := KG a
        clear KG ez
        have KN : fourB (s.extract a s.size) = false → ∀ W, w.heap.size + 1 < W.heap.size → Calls Tryz.prog 129 #[.pointer (some ⟨w.heap.size + 1, 0, none⟩), .string (s.extract a s.size)] W _ := fun h W hW => addFour_no (w.heap.size + 1) _ W HT.out h hW
        have KY : fourB (s.extract a s.size) = true → c ≤ 6 → ∀ W, Fnd W (w.heap.size + 1) f c p → Calls Tryz.prog 129 #[.pointer (some ⟨w.heap.size + 1, 0, none⟩), .string (s.extract a s.size)] W _ := fun h h6 W hW => addFour_yes (w.heap.size + 1) f c p _ W HT.out h hW h6
        have KF : fourB (s.extract a s.size) = true → (c = 7 ∨ c = 8) → ∀ W, Fnd W (w.heap.size + 1) f c p → Calls Tryz.prog 129 #[.pointer (some ⟨w.heap.size + 1, 0, none⟩), .string (s.extract a s.size)] W _ := fun h h6 W hW => addFour_full (w.heap.size + 1) f c p _ W HT.out h hW h6
        generalize grpV (s.extract a s.size) = v at *
        generalize grpN (s.extract a s.size) = z at *
        generalize quadA (s.extract a s.size) = qa at *
        generalize quadB (s.extract a s.size) = qb at *
        generalize fourB (s.extract a s.size) = fb at *
        obtain ⟨v0, v1, z0, z1⟩ := bd
        obtain ⟨z, rfl⟩ := Int.eq_ofNat_of_zero_le z0
        simp only [Int.toNat_natCast] at HS1
        obtain ⟨m, HM⟩ : ∃ m, Hid (a + z = m) := ⟨_, rfl⟩
        simp only [HM.out] at HS1
        have hms : m ≤ s.size := by have := HM.out; omega
        have ham : a ≤ m := by have := HM.out; omega
        have HZM : Hid (z = 0 ↔ m = a) := by show _ ↔ _; have := HM.out; omega
        have hm : (a : Int) + (z : Int) = (m : Int) := by have := HM.out; omega
        have hsum : IntKind.i64.wrap (m : Int) = (m : Int) := by rw [IntKind.wrap_i64]; omega
        have hms2 : (m : Int) ≤ (s.size : Int) := by omega
        clear z1 HM
        have KDm := KD m
        have KQm := KQ m
        have KCm := KC m
        clear KD KQ KC HT
        have HI0 : Hid (m = s.size → byteAt s m = 0) := fun e => by unfold byteAt; rw [dif_neg (by omega)]
        have HI1 : Hid (byteAt s (m + 1) = 58 → m + 1 < s.size) := fun e => by
          unfold byteAt at e; split at e
          · assumption
          · omega
        generalize byteAt s m = c0 at *
        generalize byteAt s (m + 1) = c1 at *
        go_wp2_with fail
        refine (KGa _).mono ?_
        rintro e w1 ⟨rfl, rfl⟩
        clear KGa
        by_cases hdot : c0 = 46
        · rw [show decide (c0 = 46) = true by simp [hdot]] at KDm
          go_wp2_with fail
          refine (KDm _).mono ?_
          rintro e w1 ⟨rfl, rfl⟩
          clear KDm
          cases hfb : fb
          · have HX : Hid (six0 s = (0#128, false)) := by
              show _ = _
              rw [← HR.out, HS1.out, if_neg hna, if_pos hdot, if_neg (by simp [hfb])]
            clear HS1 HR HFB HFB2 KY KF KQm KCm HI0 HI1
            have KN' := KN hfb
            clear KN hfb
            go_wp2_with fail
            refine (KN' _ hGB).mono ?_
            rintro e w2 ⟨rfl, hb2⟩
            have hZ' := hZ.lows hb2 (by omega) (by omega)
            have hB' := hB.trans (hb2.mono (by omega))
            obtain ⟨z0, z1, z2, z3, z4⟩ := hZ'
            clear KN' hG hZ hB hb2
            go_wp2
            try rw [Exit.noGoto_ret]
            exact bodyPost_ret (v := .tuple #[.agg #[.int .u64 0, .int .u64 0], .bool false]) (by simp [results, Tryz.results114, go_sem, *]) rfl ⟨by rw [HX.out, hI_zero, lI_zero], bset2 hB' (Nat.le_refl _) _ _⟩
          · by_cases h6 : c ≤ 6
            · have HX : Hid (six0 s = (finV (upd (upd f c qa) (c + 1) qb) (c + 2) p, finB (c + 2) p)) := by
                show _ = _
                rw [← HR.out, HS1.out, if_neg hna, if_pos hdot, if_pos ⟨hfb, h6⟩]
              clear HS1 HR HFB KN KF KQm KCm HI0 HI1
              have KY' := KY hfb h6
              clear KY hfb
              go_wp2_with fail
              refine (KY' _ hG).mono ?_
              rintro e w2 ⟨rfl, hG', hb2⟩
              have hZ' := hZ.lows hb2 (by omega) (by omega)
              have hB' := hB.trans (hb2.mono (by omega))
              clear KY' hG hZ hB hb2
              go_wp2_with fail
              refine (fword_any (w.heap.size + 1) (upd (upd f c qa) (c + 1) qb) (c + 2) p _ hG' (by omega) (by omega) (by omega) HFB2.out).mono ?_
              rintro e wx ⟨rfl, hbx⟩
              obtain ⟨z0, z1, z2, z3, z4⟩ := hZ'.below hbx
              have kBx := keepb hbx hB'
              clear hbx hG' hZ' hB'
              generalize finV (upd (upd f c qa) (c + 1) qb) (c + 2) p = xx at *
              generalize finB (c + 2) p = bb at *
              go_wp2
              try rw [Exit.noGoto_ret]
              exact bodyPost_ret (v := .tuple #[.agg #[.int .u64 (hI xx), .int .u64 (lI xx)], .bool bb]) (by simp [results, Tryz.results114, go_sem, *]) rfl ⟨by rw [HX.out], bset2 kBx (Nat.le_refl _) _ _⟩
            · have HX : Hid (six0 s = (0#128, false)) := by
                show _ = _
                rw [← HR.out, HS1.out, if_neg hna, if_pos hdot, if_neg (by simp [h6])]
              clear HS1 HR HFB HFB2 KY KN KQm KCm HI0 HI1
              have KF' := KF hfb (by omega)
              clear KF hfb
              go_wp2_with fail
              refine (KF' _ hG).mono ?_
              rintro e w2 ⟨rfl, hb2⟩
              have hZ' := hZ.lows hb2 (by omega) (by omega)
              have hB' := hB.trans (hb2.mono (by omega))
              obtain ⟨z0, z1, z2, z3, z4⟩ := hZ'
              clear KF' hG hZ hB hb2
              go_wp2
              try rw [Exit.noGoto_ret]
              exact bodyPost_ret (v := .tuple #[.agg #[.int .u64 0, .int .u64 0], .bool false]) (by simp [results, Tryz.results114, go_sem, *]) rfl ⟨by rw [HX.out, hI_zero, lI_zero], bset2 hB' (Nat.le_refl _) _ _⟩
        · rw [show decide (c0 = 46) = false by simp [hdot]] at KDm
          go_wp2_with fail
          refine (KDm _).mono ?_
          rintro e w1 ⟨rfl, rfl⟩
          clear KDm KN KY KF HFB2
          by_cases hz : z = 0
          · have HX : Hid (six0 s = (0#128, false)) := by
              show _ = _
              rw [← HR.out, HS1.out, if_neg hna, if_neg hdot, if_pos (Or.inl (by omega))]
            subst hz
            obtain ⟨z0, z1, z2, z3, z4⟩ := hZ
            have hB' := hB
            clear HS1 HR HFB KQm KCm HI0 HI1 hG
            go_wp2
            try rw [Exit.noGoto_ret]
            exact bodyPost_ret (v := .tuple #[.agg #[.int .u64 0, .int .u64 0], .bool false]) (by simp [results, Tryz.results114, go_sem, *]) rfl ⟨by rw [HX.out, hI_zero, lI_zero], bset2 hB' (Nat.le_refl _) _ _⟩
          have hzz : ¬ (z : Int) = 0 := by omega
          have hzb : ((z : Int) == 0) = false := by simp; omega
          by_cases h8 : c = 8
          · have HX : Hid (six0 s = (0#128, false)) := by
              show _ = _
              rw [← HR.out, HS1.out, if_neg hna, if_neg hdot, if_pos (Or.inr h8)]
            subst h8
            have KF := fadd_full (w.heap.size + 1) f p v w1 hG
            obtain ⟨z0, z1, z2, z3, z4⟩ := hZ
            have hB' := hB
            clear HS1 HR HFB KQm KCm HI0 HI1 hG
            go_wp2_with fail
            refine KF.mono ?_
            rintro e w2 ⟨rfl, rfl⟩
            clear KF
            go_wp2
            try rw [Exit.noGoto_ret]
            exact bodyPost_ret (v := .tuple #[.agg #[.int .u64 0, .int .u64 0], .bool false]) (by simp [results, Tryz.results114, go_sem, *]) rfl ⟨by rw [HX.out, hI_zero, lI_zero], bset2 hB' (Nat.le_refl _) _ _⟩
          have KA := fadd_any (w.heap.size + 1) f c p v w1 hG (by omega)
          have HFB3 : Hid (∀ i, 0 ≤ upd f c v i ∧ upd f c v i ≤ 65535) := by
            intro i
            have := HFB.out i
            unfold upd; split
            · exact ⟨v0, v1⟩
            · exact this
          go_wp2_with fail
          refine KA.mono ?_
          rintro e w2 ⟨rfl, hG', hb2, ho2⟩
          have hZ' := hZ.lows hb2 (by omega) (by omega)
          have hB' := hB.trans (hb2.mono (by omega))
          have hGB' := hG'.2.2.2.2.2
          clear KA hG hZ hB hb2 ho2 HFB
          generalize upd f c v = g at *
          by_cases hend : m = s.size
          · have HX : Hid (six0 s = (finV g (c + 1) p, finB (c + 1) p)) := by
              show _ = _
              rw [← HR.out, HS1.out, if_neg hna, if_neg hdot, if_neg (by simp [hz, h8]), if_pos hend]
            clear HS1 HR KQm KCm HI0 HI1
            go_wp2_with fail
            refine (fword_any (w.heap.size + 1) g (c + 1) p _ hG' (by omega) (by omega) (by omega) HFB3.out).mono ?_
            rintro e wx ⟨rfl, hbx⟩
            obtain ⟨z0, z1, z2, z3, z4⟩ := hZ'.below hbx
            have kBx := keepb hbx hB'
            clear hbx hG' hZ' hB'
            generalize finV g (c + 1) p = xx at *
            generalize finB (c + 1) p = bb at *
            go_wp2
            try rw [Exit.noGoto_ret]
            exact bodyPost_ret (v := .tuple #[.agg #[.int .u64 (hI xx), .int .u64 (lI xx)], .bool bb]) (by simp [results, Tryz.results114, go_sem, *]) rfl ⟨by rw [HX.out], bset2 kBx (Nat.le_refl _) _ _⟩
          have hems : (s.extract m s.size).toList.isEmpty = false := by
            rw [Lib.extract_toList]
            have : 0 < ((s.data.toList.drop m).take (s.size - m)).length := by
              rw [List.length_take, List.length_drop, ← Lib.size_eq]; omega
            cases h : (s.data.toList.drop m).take (s.size - m) with
            | nil => rw [h] at this; simp at this
            | cons => rfl
          obtain ⟨g1, g2, g3, g4, g5, g6⟩ := id hG'
          have g2' : w2.cell? ⟨w.heap.size + 1, 8, none⟩ = some (.int .i64 ((c : Int) + 1)) := by rw [g2]; rfl
          clear g1 g2
          by_cases hp1 : p = -1
          · have hpb : (p == -1) = true := by simp [hp1]
            by_cases hcc : c0 = 58 ∧ c1 = 58
            · have HX : Hid (sixR s n (m + 2) g (c + 1) ((c : Int) + 1) = six0 s) := by
                show _ = _
                rw [← HR.out, HS1.out, if_neg hna, if_neg hdot, if_neg (by simp [hz, h8]), if_neg hend, if_pos ⟨hp1, hcc⟩]
              rw [show decide (c0 = 58 ∧ c1 = 58) = true by simp [hcc]] at KQm
              have hm2 : m + 2 ≤ s.size := by have := HI1.out hcc.2; omega
              have hZ2 := hZ'.only (B := w.heap.size + 1) (w' := w2.setCell ⟨w.heap.size + 1, 9, none⟩ (.int .i64 ((c : Int) + 1))) ⟨by simp, fun C o hn => by
                have hn' : ¬ w.heap.size + 1 = C := fun e => hn e.symm
                simp [go_sem, hn, hn']⟩ (by omega)
              have hB2 := hB'.setCell (p := ⟨w.heap.size + 1, 9, none⟩) (by show w.heap.size ≤ w.heap.size + 1; omega) (.int .i64 ((c : Int) + 1))
              have hG2 := hG'.gap ((c : Int) + 1)
              clear HS1 HR HI0 HI1 KCm hp1 hcc
              go_wp2_with fail
              refine (KQm _).mono ?_
              rintro e w3 ⟨rfl, rfl⟩
              clear KQm
              go_wp2
              go_roundw
              case rel => exact ⟨n, m + 2, g, c + 1, (c : Int) + 1, by go_num, hm2, by have := HZM.out; omega, by omega, by omega, by omega, HFB3, HX, hG2, hZ2, hB2⟩
              case measure => have := HZM.out; simp [intOf]; omega
            · have HNE : Hid (¬ (p = -1 ∧ c0 = 58 ∧ c1 = 58)) := fun h => hcc h.2
              rw [show decide (c0 = 58 ∧ c1 = 58) = false by simp only [decide_eq_false_iff_not]; exact hcc] at KQm
              clear hp1 hcc
              by_cases hl : 1 < s.size - m
              · have hl2 : (1 : Int) < (((s.size - m : Nat)) : Int) := by omega
                have hl3 : (1 : Int) < (s.size : Int) - (m : Int) := by omega
                by_cases h58 : c0 = 58
                · have HX : Hid (sixR s n (m + 1) g (c + 1) p = six0 s) := by
                    show _ = _
                    rw [← HR.out, HS1.out, if_neg hna, if_neg hdot, if_neg (by simp [hz, h8]), if_neg hend, if_neg HNE.out, if_pos ⟨hl, h58⟩]
                  rw [show decide (c0 = 58) = true by simp [h58]] at KCm
                  clear HS1 HR HI0 HI1
                  go_wp2_with fail
                  refine (KQm _).mono ?_
                  rintro e w3 ⟨rfl, rfl⟩
                  clear KQm
                  go_wp2_with fail
                  refine (KCm _).mono ?_
                  rintro e w4 ⟨rfl, rfl⟩
                  clear KCm
                  go_wp2
                  go_roundw
                  case rel => exact ⟨n, m + 1, g, c + 1, p, by go_num, by omega, by have := HZM.out; omega, by omega, hp, hp2, HFB3, HX, hG', hZ', hB'⟩
                  case measure => have := HZM.out; simp [intOf]; omega
                · have HX : Hid (six0 s = (0#128, false)) := by
                    show _ = _
                    rw [← HR.out, HS1.out, if_neg hna, if_neg hdot, if_neg (by simp [hz, h8]), if_neg hend, if_neg HNE.out, if_neg (by simp [h58])]
                  rw [show decide (c0 = 58) = false by simp [h58]] at KCm
                  obtain ⟨z0, z1, z2, z3, z4⟩ := hZ'
                  clear HS1 HR HI0 HI1
                  go_wp2_with fail
                  refine (KQm _).mono ?_
                  rintro e w3 ⟨rfl, rfl⟩
                  clear KQm
                  go_wp2_with fail
                  refine (KCm _).mono ?_
                  rintro e w4 ⟨rfl, rfl⟩
                  clear KCm
                  go_wp2
                  try rw [Exit.noGoto_ret]
                  exact bodyPost_ret (v := .tuple #[.agg #[.int .u64 0, .int .u64 0], .bool false]) (by simp [results, Tryz.results114, go_sem, *]) rfl ⟨by rw [HX.out, hI_zero, lI_zero], bset2 hB' (Nat.le_refl _) _ _⟩
              · have hl2 : ¬ (1 : Int) < (((s.size - m : Nat)) : Int) := by omega
                have hl3 : ¬ (1 : Int) < (s.size : Int) - (m : Int) := by omega
                have HX : Hid (six0 s = (0#128, false)) := by
                  show _ = _
                  rw [← HR.out, HS1.out, if_neg hna, if_neg hdot, if_neg (by simp [hz, h8]), if_neg hend, if_neg HNE.out, if_neg (by simp [hl])]
                obtain ⟨z0, z1, z2, z3, z4⟩ := hZ'
                clear HS1 HR HI0 HI1 KCm
                go_wp2_with fail
                refine (KQm _).mono ?_
                rintro e w3 ⟨rfl, rfl⟩
                clear KQm
                go_wp2
                try rw [Exit.noGoto_ret]
                exact bodyPost_ret (v := .tuple #[.agg #[.int .u64 0, .int .u64 0], .bool false]) (by simp [results, Tryz.results114, go_sem, *]) rfl ⟨by rw [HX.out, hI_zero, lI_zero], bset2 hB' (Nat.le_refl _) _ _⟩
          · have hpb : (p == -1) = false := by simp [hp1]
            have HNE : Hid (¬ (p = -1 ∧ c0 = 58 ∧ c1 = 58)) := fun h => hp1 h.1
            clear hp1 KQm
            by_cases hl : 1 < s.size - m
            · have hl2 : (1 : Int) < (((s.size - m : Nat)) : Int) := by omega
              have hl3 : (1 : Int) < (s.size : Int) - (m : Int) := by omega
              by_cases h58 : c0 = 58
              · have HX : Hid (sixR s n (m + 1) g (c + 1) p = six0 s) := by
                  show _ = _
                  rw [← HR.out, HS1.out, if_neg hna, if_neg hdot, if_neg (by simp [hz, h8]), if_neg hend, if_neg HNE.out, if_pos ⟨hl, h58⟩]
                rw [show decide (c0 = 58) = true by simp [h58]] at KCm
                clear HS1 HR HI0 HI1
                go_wp2_with fail
                refine (KCm _).mono ?_
                rintro e w4 ⟨rfl, rfl⟩
                clear KCm
                go_wp2
                go_roundw
                case rel => exact ⟨n, m + 1, g, c + 1, p, by go_num, by omega, by have := HZM.out; omega, by omega, hp, hp2, HFB3, HX, hG', hZ', hB'⟩
                case measure => have := HZM.out; simp [intOf]; omega
              · have HX : Hid (six0 s = (0#128, false)) := by
                  show _ = _
                  rw [← HR.out, HS1.out, if_neg hna, if_neg hdot, if_neg (by simp [hz, h8]), if_neg hend, if_neg HNE.out, if_neg (by simp [h58])]
                rw [show decide (c0 = 58) = false by simp [h58]] at KCm
                obtain ⟨z0, z1, z2, z3, z4⟩ := hZ'
                clear HS1 HR HI0 HI1
                go_wp2_with fail
                refine (KCm _).mono ?_
                rintro e w4 ⟨rfl, rfl⟩
                clear KCm
                go_wp2
                try rw [Exit.noGoto_ret]
                exact bodyPost_ret (v := .tuple #[.agg #[.int .u64 0, .int .u64 0], .bool false]) (by simp [results, Tryz.results114, go_sem, *]) rfl ⟨by rw [HX.out, hI_zero, lI_zero], bset2 hB' (Nat.le_refl _) _ _⟩
            · have hl2 : ¬ (1 : Int) < (((s.size - m : Nat)) : Int) := by omega
              have hl3 : ¬ (1 : Int) < (s.size : Int) - (m : Int) := by omega
              have HX : Hid (six0 s = (0#128, false)) := by
                show _ = _
                rw [← HR.out, HS1.out, if_neg hna, if_neg hdot, if_neg (by simp [hz, h8]), if_neg hend, if_neg HNE.out, if_neg (by simp [hl])]
              obtain ⟨z0, z1, z2, z3, z4⟩ := hZ'
              clear HS1 HR HI0 HI1 KCm
              go_wp2
              try rw [Exit.noGoto_ret]
              exact bodyPost_ret (v := .tuple #[.agg #[.int .u64 0, .int .u64 0], .bool false]) (by simp [results, Tryz.results114, go_sem, *]) rfl ⟨by rw [HX.out, hI_zero, lI_zero], bset2 hB' (Nat.le_refl _) _ _⟩
      · have HX : Hid (six0 s = (finV f c p, finB c p)) := by
          show _ = _
          rw [← HR.out, HS1.out, if_pos (by omega)]
        have hG' := hG
        have hZ' := hZ
        have hB' := hB
        clear HS1 HR hG hZ hB KG KQ KD KC
        go_wp2_with fail
        refine (fword_any (w.heap.size + 1) f c p _ hG' (by omega) (by omega) (by omega) HFB.out).mono ?_
        rintro e wx ⟨rfl, hbx⟩
        obtain ⟨z0, z1, z2, z3, z4⟩ := hZ'.below hbx
        have kBx := keepb hbx hB'
        clear hbx hG' hZ' hB'
        generalize finV f c p = xx at *
        generalize finB c p = bb at *
        go_wp2
        try rw [Exit.noGoto_ret]
        exact bodyPost_ret (v := .tuple #[.agg #[.int .u64 (hI xx), .int .u64 (lI xx)], .bool bb]) (by simp [results, Tryz.results114, go_sem, *]) rfl ⟨by rw [HX.out], bset2 kBx (Nat.le_refl _) _ _⟩
  · rw [show decide (byteAt s 0 = 58 ∧ byteAt s 1 = 58) = false by simp only [decide_eq_false_iff_not]; exact hpp] at K2
    have H0 : Hid (sixR s (s.size + 1) 0 (fun _ => 0) 0 (-1) = six0 s) := by show _ = _; unfold six0; rw [if_neg hpp]
    clear hpp
    go_enter Tryz.func114, Tryz.ntmps114
    go_wp2
    go_step3
    go_wp2_with fail
    refine (K2 _).mono ?_
    rintro e w1 ⟨rfl, rfl⟩
    clear K2
    go_wp2
    go_step3
    go_wp2
    go_loopw [5] (fun q wr => ∃ (n a : Nat) (f : Nat → Int) (c : Nat) (p : Int), q = .int .i64 a ∧ a ≤ s.size ∧ s.size < a + n ∧ c ≤ 8 ∧ -1 ≤ p ∧ p ≤ 8 ∧ Hid (∀ i, 0 ≤ f i ∧ f i ≤ 65535) ∧ Hid (sixR s n a f c p = six0 s) ∧ Fnd wr (w.heap.size + 1) f c p ∧ At wr w.heap.size 0#128 ∧ Below w.heap.size w wr) (fun q _ => s.size - (intOf q).toNat)
    case atStart =>
      refine ⟨s.size + 1, 0, fun _ => 0, 0, -1, rfl, by omega, by omega, by omega, by omega, by omega, fun i => ⟨by show (0 : Int) ≤ 0; omega, by show (0 : Int) ≤ 65535; omega⟩, H0, ?_, ?_, bl2 _ _ _⟩
      · exact fnd_new _ _ _ (by simp) _
      · refine ⟨?_, ?_, ?_, ?_, ?_⟩ <;> simp [go_sem, hI_zero, lI_zero]
    case round =>
      obtain ⟨n, a, f, c, p, rfl, ha, hn, hc, hp, hp2, HFB, HR, hG, hZ, hB⟩ := hrel
      obtain ⟨n, rfl⟩ : ∃ k, n = k + 1 := ⟨n - 1, by omega⟩
      have HS1 : Hid _ := sixR_succ s n a f c p
      have HB := hB.size
      have hGB := hG.2.2.2.2.2
      by_cases hlt : a < s.size
      · have hna : ¬ s.size ≤ a := by omega
        have hlt2 : (a : Int) < (s.size : Int) := by omega
        have hle2 : (a : Int) ≤ (s.size : Int) := by omega
        have bd := grp_bd (s.extract a s.size)
        have ez : (s.extract a s.size).size = s.size - a := by simp
        rw [ez] at bd
        have HT : Hid ((s.extract a s.size).size ≤ maxLen) := by
          show _ ≤ _
          have := HS.out; omega
        have qbA := quadA_bd (s.extract a s.size)
        have qbB := quadB_bd (s.extract a s.size)
        have HFB2 : Hid (∀ i, 0 ≤ upd (upd f c (quadA (s.extract a s.size))) (c + 1) (quadB (s.extract a s.size)) i ∧ upd (upd f c (quadA (s.extract a s.size))) (c + 1) (quadB (s.extract a s.size)) i ≤ 65535) := by
          intro i
          have := HFB.out i
          unfold upd; split
          · exact qbB
          · split
            · exact qbA
            · exact this
        have KGa := KG a
        clear KG ez
        have KN : fourB (s.extract a s.size) = false → ∀ W, w.heap.size + 1 < W.heap.size → Calls Tryz.prog 129 #[.pointer (some ⟨w.heap.size + 1, 0, none⟩), .string (s.extract a s.size)] W _ := fun h W hW => addFour_no (w.heap.size + 1) _ W HT.out h hW
        have KY : fourB (s.extract a s.size) = true → c ≤ 6 → ∀ W, Fnd W (w.heap.size + 1) f c p → Calls Tryz.prog 129 #[.pointer (some ⟨w.heap.size + 1, 0, none⟩), .string (s.extract a s.size)] W _ := fun h h6 W hW => addFour_yes (w.heap.size + 1) f c p _ W HT.out h hW h6
        have KF : fourB (s.extract a s.size) = true → (c = 7 ∨ c = 8) → ∀ W, Fnd W (w.heap.size + 1) f c p → Calls Tryz.prog 129 #[.pointer (some ⟨w.heap.size + 1, 0, none⟩), .string (s.extract a s.size)] W _ := fun h h6 W hW => addFour_full (w.heap.size + 1) f c p _ W HT.out h hW h6
        generalize grpV (s.extract a s.size) = v at *
        generalize grpN (s.extract a s.size) = z at *
        generalize quadA (s.extract a s.size) = qa at *
        generalize quadB (s.extract a s.size) = qb at *
        generalize fourB (s.extract a s.size) = fb at *
        obtain ⟨v0, v1, z0, z1⟩ := bd
        obtain ⟨z, rfl⟩ := Int.eq_ofNat_of_zero_le z0
        simp only [Int.toNat_natCast] at HS1
        obtain ⟨m, HM⟩ : ∃ m, Hid (a + z = m) := ⟨_, rfl⟩
        simp only [HM.out] at HS1
        have hms : m ≤ s.size := by have := HM.out; omega
        have ham : a ≤ m := by have := HM.out; omega
        have HZM : Hid (z = 0 ↔ m = a) := by show _ ↔ _; have := HM.out; omega
        have hm : (a : Int) + (z : Int) = (m : Int) := by have := HM.out; omega
        have hsum : IntKind.i64.wrap (m : Int) = (m : Int) := by rw [IntKind.wrap_i64]; omega
        have hms2 : (m : Int) ≤ (s.size : Int) := by omega
        clear z1 HM
        have KDm := KD m
        have KQm := KQ m
        have KCm := KC m
        clear KD KQ KC HT
        have HI0 : Hid (m = s.size → byteAt s m = 0) := fun e => by unfold byteAt; rw [dif_neg (by omega)]
        have HI1 : Hid (byteAt s (m + 1) = 58 → m + 1 < s.size) := fun e => by
          unfold byteAt at e; split at e
          · assumption
          · omega
        generalize byteAt s m = c0 at *
        generalize byteAt s (m + 1) = c1 at *
        go_wp2_with fail
        refine (KGa _).mono ?_
        rintro e w1 ⟨rfl, rfl⟩
        clear KGa
        by_cases hdot : c0 = 46
        · rw [show decide (c0 = 46) = true by simp [hdot]] at KDm
          go_wp2_with fail
          refine (KDm _).mono ?_
          rintro e w1 ⟨rfl, rfl⟩
          clear KDm
          cases hfb : fb
          · have HX : Hid (six0 s = (0#128, false)) := by
              show _ = _
              rw [← HR.out, HS1.out, if_neg hna, if_pos hdot, if_neg (by simp [hfb])]
            clear HS1 HR HFB HFB2 KY KF KQm KCm HI0 HI1
            have KN' := KN hfb
            clear KN hfb
            go_wp2_with fail
            refine (KN' _ hGB).mono ?_
            rintro e w2 ⟨rfl, hb2⟩
            have hZ' := hZ.lows hb2 (by omega) (by omega)
            have hB' := hB.trans (hb2.mono (by omega))
            obtain ⟨z0, z1, z2, z3, z4⟩ := hZ'
            clear KN' hG hZ hB hb2
            go_wp2
            try rw [Exit.noGoto_ret]
            exact bodyPost_ret (v := .tuple #[.agg #[.int .u64 0, .int .u64 0], .bool false]) (by simp [results, Tryz.results114, go_sem, *]) rfl ⟨by rw [HX.out, hI_zero, lI_zero], bset2 hB' (Nat.le_refl _) _ _⟩
          · by_cases h6 : c ≤ 6
            · have HX : Hid (six0 s = (finV (upd (upd f c qa) (c + 1) qb) (c + 2) p, finB (c + 2) p)) := by
                show _ = _
                rw [← HR.out, HS1.out, if_neg hna, if_pos hdot, if_pos ⟨hfb, h6⟩]
              clear HS1 HR HFB KN KF KQm KCm HI0 HI1
              have KY' := KY hfb h6
              clear KY hfb
              go_wp2_with fail
              refine (KY' _ hG).mono ?_
              rintro e w2 ⟨rfl, hG', hb2⟩
              have hZ' := hZ.lows hb2 (by omega) (by omega)
              have hB' := hB.trans (hb2.mono (by omega))
              clear KY' hG hZ hB hb2
              go_wp2_with fail
              refine (fword_any (w.heap.size + 1) (upd (upd f c qa) (c + 1) qb) (c + 2) p _ hG' (by omega) (by omega) (by omega) HFB2.out).mono ?_
              rintro e wx ⟨rfl, hbx⟩
              obtain ⟨z0, z1, z2, z3, z4⟩ := hZ'.below hbx
              have kBx := keepb hbx hB'
              clear hbx hG' hZ' hB'
              generalize finV (upd (upd f c qa) (c + 1) qb) (c + 2) p = xx at *
              generalize finB (c + 2) p = bb at *
              go_wp2
              try rw [Exit.noGoto_ret]
              exact bodyPost_ret (v := .tuple #[.agg #[.int .u64 (hI xx), .int .u64 (lI xx)], .bool bb]) (by simp [results, Tryz.results114, go_sem, *]) rfl ⟨by rw [HX.out], bset2 kBx (Nat.le_refl _) _ _⟩
            · have HX : Hid (six0 s = (0#128, false)) := by
                show _ = _
                rw [← HR.out, HS1.out, if_neg hna, if_pos hdot, if_neg (by simp [h6])]
              clear HS1 HR HFB HFB2 KY KN KQm KCm HI0 HI1
              have KF' := KF hfb (by omega)
              clear KF hfb
              go_wp2_with fail
              refine (KF' _ hG).mono ?_
              rintro e w2 ⟨rfl, hb2⟩
              have hZ' := hZ.lows hb2 (by omega) (by omega)
              have hB' := hB.trans (hb2.mono (by omega))
              obtain ⟨z0, z1, z2, z3, z4⟩ := hZ'
              clear KF' hG hZ hB hb2
              go_wp2
              try rw [Exit.noGoto_ret]
              exact bodyPost_ret (v := .tuple #[.agg #[.int .u64 0, .int .u64 0], .bool false]) (by simp [results, Tryz.results114, go_sem, *]) rfl ⟨by rw [HX.out, hI_zero, lI_zero], bset2 hB' (Nat.le_refl _) _ _⟩
        · rw [show decide (c0 = 46) = false by simp [hdot]] at KDm
          go_wp2_with fail
          refine (KDm _).mono ?_
          rintro e w1 ⟨rfl, rfl⟩
          clear KDm KN KY KF HFB2
          by_cases hz : z = 0
          · have HX : Hid (six0 s = (0#128, false)) := by
              show _ = _
              rw [← HR.out, HS1.out, if_neg hna, if_neg hdot, if_pos (Or.inl (by omega))]
            subst hz
            obtain ⟨z0, z1, z2, z3, z4⟩ := hZ
            have hB' := hB
            clear HS1 HR HFB KQm KCm HI0 HI1 hG
            go_wp2
            try rw [Exit.noGoto_ret]
            exact bodyPost_ret (v := .tuple #[.agg #[.int .u64 0, .int .u64 0], .bool false]) (by simp [results, Tryz.results114, go_sem, *]) rfl ⟨by rw [HX.out, hI_zero, lI_zero], bset2 hB' (Nat.le_refl _) _ _⟩
          have hzz : ¬ (z : Int) = 0 := by omega
          have hzb : ((z : Int) == 0) = false := by simp; omega
          by_cases h8 : c = 8
          · have HX : Hid (six0 s = (0#128, false)) := by
              show _ = _
              rw [← HR.out, HS1.out, if_neg hna, if_neg hdot, if_pos (Or.inr h8)]
            subst h8
            have KF := fadd_full (w.heap.size + 1) f p v w1 hG
            obtain ⟨z0, z1, z2, z3, z4⟩ := hZ
            have hB' := hB
            clear HS1 HR HFB KQm KCm HI0 HI1 hG
            go_wp2_with fail
            refine KF.mono ?_
            rintro e w2 ⟨rfl, rfl⟩
            clear KF
            go_wp2
            try rw [Exit.noGoto_ret]
            exact bodyPost_ret (v := .tuple #[.agg #[.int .u64 0, .int .u64 0], .bool false]) (by simp [results, Tryz.results114, go_sem, *]) rfl ⟨by rw [HX.out, hI_zero, lI_zero], bset2 hB' (Nat.le_refl _) _ _⟩
          have KA := fadd_any (w.heap.size + 1) f c p v w1 hG (by omega)
          have HFB3 : Hid (∀ i, 0 ≤ upd f c v i ∧ upd f c v i ≤ 65535) := by
            intro i
            have := HFB.out i
            unfold upd; split
            · exact ⟨v0, v1⟩
            · exact this
          go_wp2_with fail
          refine KA.mono ?_
          rintro e w2 ⟨rfl, hG', hb2, ho2⟩
          have hZ' := hZ.lows hb2 (by omega) (by omega)
          have hB' := hB.trans (hb2.mono (by omega))
          have hGB' := hG'.2.2.2.2.2
          clear KA hG hZ hB hb2 ho2 HFB
          generalize upd f c v = g at *
          by_cases hend : m = s.size
          · have HX : Hid (six0 s = (finV g (c + 1) p, finB (c + 1) p)) := by
              show _ = _
              rw [← HR.out, HS1.out, if_neg hna, if_neg hdot, if_neg (by simp [hz, h8]), if_pos hend]
            clear HS1 HR KQm KCm HI0 HI1
            go_wp2_with fail
            refine (fword_any (w.heap.size + 1) g (c + 1) p _ hG' (by omega) (by omega) (by omega) HFB3.out).mono ?_
            rintro e wx ⟨rfl, hbx⟩
            obtain ⟨z0, z1, z2, z3, z4⟩ := hZ'.below hbx
            have kBx := keepb hbx hB'
            clear hbx hG' hZ' hB'
            generalize finV g (c + 1) p = xx at *
            generalize finB (c + 1) p = bb at *
            go_wp2
            try rw [Exit.noGoto_ret]
            exact bodyPost_ret (v := .tuple #[.agg #[.int .u64 (hI xx), .int .u64 (lI xx)], .bool bb]) (by simp [results, Tryz.results114, go_sem, *]) rfl ⟨by rw [HX.out], bset2 kBx (Nat.le_refl _) _ _⟩
          have hems : (s.extract m s.size).toList.isEmpty = false := by
            rw [Lib.extract_toList]
            have : 0 < ((s.data.toList.drop m).take (s.size - m)).length := by
              rw [List.length_take, List.length_drop, ← Lib.size_eq]; omega
            cases h : (s.data.toList.drop m).take (s.size - m) with
            | nil => rw [h] at this; simp at this
            | cons => rfl
          obtain ⟨g1, g2, g3, g4, g5, g6⟩ := id hG'
          have g2' : w2.cell? ⟨w.heap.size + 1, 8, none⟩ = some (.int .i64 ((c : Int) + 1)) := by rw [g2]; rfl
          clear g1 g2
          by_cases hp1 : p = -1
          · have hpb : (p == -1) = true := by simp [hp1]
            by_cases hcc : c0 = 58 ∧ c1 = 58
            · have HX : Hid (sixR s n (m + 2) g (c + 1) ((c : Int) + 1) = six0 s) := by
                show _ = _
                rw [← HR.out, HS1.out, if_neg hna, if_neg hdot, if_neg (by simp [hz, h8]), if_neg hend, if_pos ⟨hp1, hcc⟩]
              rw [show decide (c0 = 58 ∧ c1 = 58) = true by simp [hcc]] at KQm
              have hm2 : m + 2 ≤ s.size := by have := HI1.out hcc.2; omega
              have hZ2 := hZ'.only (B := w.heap.size + 1) (w' := w2.setCell ⟨w.heap.size + 1, 9, none⟩ (.int .i64 ((c : Int) + 1))) ⟨by simp, fun C o hn => by
                have hn' : ¬ w.heap.size + 1 = C := fun e => hn e.symm
                simp [go_sem, hn, hn']⟩ (by omega)
              have hB2 := hB'.setCell (p := ⟨w.heap.size + 1, 9, none⟩) (by show w.heap.size ≤ w.heap.size + 1; omega) (.int .i64 ((c : Int) + 1))
              have hG2 := hG'.gap ((c : Int) + 1)
              clear HS1 HR HI0 HI1 KCm hp1 hcc
              go_wp2_with fail
              refine (KQm _).mono ?_
              rintro e w3 ⟨rfl, rfl⟩
              clear KQm
              go_wp2
              go_roundw
              case rel => exact ⟨n, m + 2, g, c + 1, (c : Int) + 1, by go_num, hm2, by have := HZM.out; omega, by omega, by omega, by omega, HFB3, HX, hG2, hZ2, hB2⟩
              case measure => have := HZM.out; simp [intOf]; omega
            · have HNE : Hid (¬ (p = -1 ∧ c0 = 58 ∧ c1 = 58)) := fun h => hcc h.2
              rw [show decide (c0 = 58 ∧ c1 = 58) = false by simp only [decide_eq_false_iff_not]; exact hcc] at KQm
              clear hp1 hcc
              by_cases hl : 1 < s.size - m
              · have hl2 : (1 : Int) < (((s.size - m : Nat)) : Int) := by omega
                have hl3 : (1 : Int) < (s.size : Int) - (m : Int) := by omega
                by_cases h58 : c0 = 58
                · have HX : Hid (sixR s n (m + 1) g (c + 1) p = six0 s) := by
                    show _ = _
                    rw [← HR.out, HS1.out, if_neg hna, if_neg hdot, if_neg (by simp [hz, h8]), if_neg hend, if_neg HNE.out, if_pos ⟨hl, h58⟩]
                  rw [show decide (c0 = 58) = true by simp [h58]] at KCm
                  clear HS1 HR HI0 HI1
                  go_wp2_with fail
                  refine (KQm _).mono ?_
                  rintro e w3 ⟨rfl, rfl⟩
                  clear KQm
                  go_wp2_with fail
                  refine (KCm _).mono ?_
                  rintro e w4 ⟨rfl, rfl⟩
                  clear KCm
                  go_wp2
                  go_roundw
                  case rel => exact ⟨n, m + 1, g, c + 1, p, by go_num, by omega, by have := HZM.out; omega, by omega, hp, hp2, HFB3, HX, hG', hZ', hB'⟩
                  case measure => have := HZM.out; simp [intOf]; omega
                · have HX : Hid (six0 s = (0#128, false)) := by
                    show _ = _
                    rw [← HR.out, HS1.out, if_neg hna, if_neg hdot, if_neg (by simp [hz, h8]), if_neg hend, if_neg HNE.out, if_neg (by simp [h58])]
                  rw [show decide (c0 = 58) = false by simp [h58]] at KCm
                  obtain ⟨z0, z1, z2, z3, z4⟩ := hZ'
                  clear HS1 HR HI0 HI1
                  go_wp2_with fail
                  refine (KQm _).mono ?_
                  rintro e w3 ⟨rfl, rfl⟩
                  clear KQm
                  go_wp2_with fail
                  refine (KCm _).mono ?_
                  rintro e w4 ⟨rfl, rfl⟩
                  clear KCm
                  go_wp2
                  try rw [Exit.noGoto_ret]
                  exact bodyPost_ret (v := .tuple #[.agg #[.int .u64 0, .int .u64 0], .bool false]) (by simp [results, Tryz.results114, go_sem, *]) rfl ⟨by rw [HX.out, hI_zero, lI_zero], bset2 hB' (Nat.le_refl _) _ _⟩
              · have hl2 : ¬ (1 : Int) < (((s.size - m : Nat)) : Int) := by omega
                have hl3 : ¬ (1 : Int) < (s.size : Int) - (m : Int) := by omega
                have HX : Hid (six0 s = (0#128, false)) := by
                  show _ = _
                  rw [← HR.out, HS1.out, if_neg hna, if_neg hdot, if_neg (by simp [hz, h8]), if_neg hend, if_neg HNE.out, if_neg (by simp [hl])]
                obtain ⟨z0, z1, z2, z3, z4⟩ := hZ'
                clear HS1 HR HI0 HI1 KCm
                go_wp2_with fail
                refine (KQm _).mono ?_
                rintro e w3 ⟨rfl, rfl⟩
                clear KQm
                go_wp2
                try rw [Exit.noGoto_ret]
                exact bodyPost_ret (v := .tuple #[.agg #[.int .u64 0, .int .u64 0], .bool false]) (by simp [results, Tryz.results114, go_sem, *]) rfl ⟨by rw [HX.out, hI_zero, lI_zero], bset2 hB' (Nat.le_refl _) _ _⟩
          · have hpb : (p == -1) = false := by simp [hp1]
            have HNE : Hid (¬ (p = -1 ∧ c0 = 58 ∧ c1 = 58)) := fun h => hp1 h.1
            clear hp1 KQm
            by_cases hl : 1 < s.size - m
            · have hl2 : (1 : Int) < (((s.size - m : Nat)) : Int) := by omega
              have hl3 : (1 : Int) < (s.size : Int) - (m : Int) := by omega
              by_cases h58 : c0 = 58
              · have HX : Hid (sixR s n (m + 1) g (c + 1) p = six0 s) := by
                  show _ = _
                  rw [← HR.out, HS1.out, if_neg hna, if_neg hdot, if_neg (by simp [hz, h8]), if_neg hend, if_neg HNE.out, if_pos ⟨hl, h58⟩]
                rw [show decide (c0 = 58) = true by simp [h58]] at KCm
                clear HS1 HR HI0 HI1
                go_wp2_with fail
                refine (KCm _).mono ?_
                rintro e w4 ⟨rfl, rfl⟩
                clear KCm
                go_wp2
                go_roundw
                case rel => exact ⟨n, m + 1, g, c + 1, p, by go_num, by omega, by have := HZM.out; omega, by omega, hp, hp2, HFB3, HX, hG', hZ', hB'⟩
                case measure => have := HZM.out; simp [intOf]; omega
              · have HX : Hid (six0 s = (0#128, false)) := by
                  show _ = _
                  rw [← HR.out, HS1.out, if_neg hna, if_neg hdot, if_neg (by simp [hz, h8]), if_neg hend, if_neg HNE.out, if_neg (by simp [h58])]
                rw [show decide (c0 = 58) = false by simp [h58]] at KCm
                obtain ⟨z0, z1, z2, z3, z4⟩ := hZ'
                clear HS1 HR HI0 HI1
                go_wp2_with fail
                refine (KCm _).mono ?_
                rintro e w4 ⟨rfl, rfl⟩
                clear KCm
                go_wp2
                try rw [Exit.noGoto_ret]
                exact bodyPost_ret (v := .tuple #[.agg #[.int .u64 0, .int .u64 0], .bool false]) (by simp [results, Tryz.results114, go_sem, *]) rfl ⟨by rw [HX.out, hI_zero, lI_zero], bset2 hB' (Nat.le_refl _) _ _⟩
            · have hl2 : ¬ (1 : Int) < (((s.size - m : Nat)) : Int) := by omega
              have hl3 : ¬ (1 : Int) < (s.size : Int) - (m : Int) := by omega
              have HX : Hid (six0 s = (0#128, false)) := by
                show _ = _
                rw [← HR.out, HS1.out, if_neg hna, if_neg hdot, if_neg (by simp [hz, h8]), if_neg hend, if_neg HNE.out, if_neg (by simp [hl])]
              obtain ⟨z0, z1, z2, z3, z4⟩ := hZ'
              clear HS1 HR HI0 HI1 KCm
              go_wp2
              try rw [Exit.noGoto_ret]
              exact bodyPost_ret (v := .tuple #[.agg #[.int .u64 0, .int .u64 0], .bool false]) (by simp [results, Tryz.results114, go_sem, *]) rfl ⟨by rw [HX.out, hI_zero, lI_zero], bset2 hB' (Nat.le_refl _) _ _⟩
      · have HX : Hid (six0 s = (finV f c p, finB c p)) := by
          show _ = _
          rw [← HR.out, HS1.out, if_pos (by omega)]
        have hG' := hG
        have hZ' := hZ
        have hB' := hB
        clear HS1 HR hG hZ hB KG KQ KD KC
        go_wp2_with fail
        refine (fword_any (w.heap.size + 1) f c p _ hG' (by omega) (by omega) (by omega) HFB.out).mono ?_
        rintro e wx ⟨rfl, hbx⟩
        obtain ⟨z0, z1, z2, z3, z4⟩ := hZ'.below hbx
        have kBx := keepb hbx hB'
        clear hbx hG' hZ' hB'
        generalize finV f c p = xx at *
        generalize finB c p = bb at *
        go_wp2
        try rw [Exit.noGoto_ret]
        exact bodyPost_ret (v := .tuple #[.agg #[.int .u64 (hI xx), .int .u64 (lI xx)], .bool bb]) (by simp [results, Tryz.results114, go_sem, *]) rfl ⟨by rw [HX.out], bset2 kBx (Nat.le_refl _) _ _⟩
end Go.Proofs.YtpiicdpipjjenaaGreatDoor
