/-
  The law AddrForms, walked.
-/
import Derived.Test.YtldjeabdoooihaaFormO
import Derived.Test.YtldjeabdoooihaaQt
namespace Go.Proofs.Ytldjeabdoooihaa
open Go.RowKit
set_option linter.unusedSimpArgs false
set_option linter.unusedVariables false

set_option maxRecDepth 20000 in
set_option maxHeartbeats 8000000 in
theorem forms_walk (x : BitVec 128) (le fr nn : Int) (u qd : Bool) (E A B : Nat) (w : World) (hE : E ≤ 3) (hA : A ≤ 7) (hB : A + B ≤ 8)
    (KE : ∀ w, Calls Try.prog 17 #[.int .i64 le, .int .i64 4] w fun e w' => e = .returned (.int .i64 (E : Int)) ∧ w' = w)
    (KA : ∀ w, Calls Try.prog 17 #[.int .i64 fr, .int .i64 8] w fun e w' => e = .returned (.int .i64 (A : Int)) ∧ w' = w)
    (KB : ∀ w, Calls Try.prog 17 #[.int .i64 nn, .int .i64 (8 - (A : Int) + 1)] w fun e w' => e = .returned (.int .i64 (B : Int)) ∧ w' = w) :
    Calls Try.prog 6 #[.agg #[.int .u64 (hI x), .int .u64 (lI x)], .int .i64 le, .bool u, .int .i64 fr, .int .i64 nn, .bool qd] w fun e w' => e = .returned (.bool true) ∧ Below w.heap.size w w' := by
  obtain ⟨i0, hi, hz0, hz1, hz2⟩ := info_parts Try.infoI
  have hw1 : IntKind.i64.wrap (1 + (E : Int)) = 1 + (E : Int) := by rw [IntKind.wrap_i64]; omega
  have hw2 : IntKind.i64.wrap (8 - (A : Int)) = 8 - (A : Int) := by rw [IntKind.wrap_i64]; omega
  have hw3 : IntKind.i64.wrap (8 - (A : Int) + 1) = 8 - (A : Int) + 1 := by rw [IntKind.wrap_i64]; omega
  go_enter Try.func6, Try.ntmps6
  go_wp2_with fail
  refine (known2_any _).mono ?_
  rintro e w1 ⟨rfl, hb1⟩
  have X1 := (at_new w w.heap.size x 24 rfl).below hb1
  have kB1 := keepb hb1 (bl1 w _)
  clear hb1
  go_wp2_with fail
  refine (KE _).mono ?_
  rintro e w2 ⟨rfl, rfl⟩
  go_wp2_with fail
  refine (KA _).mono ?_
  rintro e w3 ⟨rfl, rfl⟩
  go_wp2_with fail
  refine (KB _).mono ?_
  rintro e w4 ⟨rfl, rfl⟩
  clear KE KA KB hw1 hw2 hw3
  go_wp2
  go_loopw [13, 14] (fun a b wr => ∃ (k : Nat) (ao : Option Addr) (cp : Nat), a = .slice ao k cp ∧ b = .int .i64 k ∧ k ≤ 8 ∧ wr.ownsRow (w.heap.size + 1) 3 1 (.slice ao k cp) k (ints (cellsG x k)) ∧ At wr w.heap.size x ∧ Below w.heap.size w wr) (fun _ b _ => 8 - (intOf b).toNat)
  case atStart => exact ⟨0, none, 0, rfl, rfl, by omega, World.ownsRow_nil _ _ _ _, X1, kB1⟩
  case round =>
    clear X1 kB1
    obtain ⟨k, ao, cp, rfl, rfl, hk, hown, X, kB⟩ := hrel
    have hXs := X.2.2.2.2
    by_cases hlt : k < 8
    · have hk2 : (k : Int) < 8 := by omega
      have hum : IntKind.i64.wrap (16 * (k : Int)) = 16 * (k : Int) := by rw [IntKind.wrap_i64]; omega
      have KF := fun w => rfield_in x (16 * (k : Int)) 16 w (by unfold fitB; simp; omega)
      have gb := grpX_bd x k hlt
      have HG : Hid (lI (readW x (16 * (k : Int)) 16) = grpX x k) := rfl
      have HC := cellsG_succ x k
      rw [HG.out] at KF
      generalize grpX x k = v at *
      generalize hI (readW x (16 * (k : Int)) 16) = vh at *
      have hcv : IntKind.i64.wrap v = v := by rw [IntKind.wrap_i64]; omega
      have h63 : k + 1 ≤ maxLen := by unfold maxLen; omega
      have h47 : (k + 1) * 8 ≤ 140737488355328 := by omega
      have HC2 : Hid (cellsG x (k + 1) = cellsG x k ++ [v]) := HC
      clear HC
      obtain ⟨x0, x1, -, -, -⟩ := id X
      go_wp2_with fail
      refine (KF _).mono ?_
      rintro e w5 ⟨rfl, hb5⟩
      clear KF x0 x1
      have X5 := (X.below hb5).below (bl1 _ (.cells #[.int .u64 vh, .int .u64 v] 24))
      have hown := (rowBelow hb5 hown).alloc (.cells #[.int .u64 vh, .int .u64 v] 24)
      have kB5 := (keepb hb5 kB).alloc (keepb hb5 kB).size (.cells #[.int .u64 vh, .int .u64 v] 24)
      have hs5 := hb5.size
      clear X kB hb5
      go_wp2_with (first | (at_builtin; refine wpList_append_lies _ rfl _ _ 42 rfl (w.heap.size + 1) 3 i0 (.int .i64 0) 1 8 Try.underlying42 hi hz0 hz1 hz2 rfl (by decide) _ _ _ rfl (hown.alloc _) ⟨w5.heap.size + 1, 0, none⟩ 1 1 [.int .i64 v] rfl rfl (by simpa using newsS (w5.alloc (.cells #[.int .u64 vh, .int .u64 v] 24)) (.int .i64 v) 3) (oneI _) (by decide) h63 h47 (by simp; omega) _ rfl ?_; intro g5 cap5 w6 hown5 hgrow hat hlt5))
      have kB6 : Below w.heap.size w w6 := (kB5.alloc kB5.size _).grown hgrow (by have := kB5.size; simp at this ⊢; omega) (fun q hq => by have := (hown.lt q hq).1; omega)
      have X6 := (X5.below (bl1 _ _)).gby hgrow (fun e => by have := (hown.lt _ e.symm).1; omega)
      clear hgrow hat
      go_roundw
      case rel => exact ⟨k + 1, some ⟨g5, 0, none⟩, cap5, rfl, by go_num, by omega, by rw [HC2.out]; simpa [ints] using hown5, X6, kB6⟩
      case measure => simp [intOf]; omega
    · have hk8 : k = 8 := by omega
      subst hk8
      obtain ⟨g, c2, hv, hgb, hgl⟩ := hown.form (by omega)
      have hv2 : ao = some ⟨g, 0, none⟩ ∧ cp = c2 := by
        injection hv with e1 e2 e3; exact ⟨e1, e3⟩
      obtain ⟨rfl, rfl⟩ := hv2
      have hrow : RowG wr g (grpX x) := fun k hk => by
        refine ⟨?_, hown.frozenAt k⟩
        rw [row_int2 hown (by simp [cellsG]) k hk, cellsG_get x k hk]
      have hG : Hid (∀ k, 0 ≤ grpX x k ∧ grpX x k ≤ 65535) := fun k => grpX_all x k
      have hgw : w.heap.size + 1 ≤ g := by have := (hown.lt g rfl).1; omega
      clear hown hv X hXs i0 hi hz0 hz1 hz2 hgb
      generalize grpX x = G0 at *
      have hab : IntKind.i64.wrap ((A : Int) + (B : Int)) = (A : Int) + (B : Int) := by rw [IntKind.wrap_i64]; omega
      go_wp2
      go_loopw [17] (fun p wz => ∃ (i : Nat) (G : Nat → Int), p = .int .i64 i ∧ A ≤ i ∧ i ≤ A + B ∧ Hid (RowG wz g G) ∧ Hid (∀ k, G k = if A ≤ k ∧ k < i then 0 else G0 k) ∧ Below w.heap.size w wz) (fun p _ => 20 - (intOf p).toNat)
      case atStart => exact ⟨A, G0, rfl, by omega, by omega, hrow, fun k => by rw [if_neg (by omega)], kB⟩
      case round =>
        clear hrow kB hgl
        obtain ⟨i, G, rfl, hi1, hi2, hrow, HZ, kB⟩ := hrel
        by_cases hlt : i < A + B
        · have hlt2 : (i : Int) < (A : Int) + (B : Int) := by omega
          have hi8 : i < 8 := by omega
          obtain ⟨c1, c2⟩ := hrow.out i hi8
          have HZ2 : Hid (∀ k, upd G i 0 k = if A ≤ k ∧ k < i + 1 then 0 else G0 k) := fun k => by
            unfold upd
            by_cases e : k = i
            · rw [if_pos e, if_pos (by omega)]
            · rw [if_neg e, HZ.out k]
              by_cases q : A ≤ k ∧ k < i
              · rw [if_pos q, if_pos (by omega)]
              · rw [if_neg q, if_neg (by omega)]
          clear HZ
          go_wp2
          go_roundw
          case rel => exact ⟨i + 1, upd G i 0, by go_num, by omega, by omega, hrow.out.put i hi8 0, HZ2, kB.setCell (by show w.heap.size ≤ g; omega) _⟩
          case measure => simp [intOf]; omega
        · have hlt2 : ¬ (i : Int) < (A : Int) + (B : Int) := by omega
          have HZ2 : Hid (∀ k, A ≤ k → k < A + B → G k = 0) := fun k h1 h2 => by rw [HZ.out k, if_pos (by omega)]
          have HB : Hid (∀ k, 0 ≤ G k ∧ G k ≤ 65535) := fun k => by
            rw [HZ.out k]
            split
            · omega
            · exact hG.out k
          have hgs := cell_in (hrow.out 0 (by omega)).1
          clear HZ hG
          go_wp2
          obtain ⟨L, HL⟩ : ∃ L : List Int, Hid (L = (List.range' 0 8).map G) := ⟨_, rfl⟩
          have HLG : Hid (∀ k, k < 8 → L.getD k 0 = G k) := fun k hk => by
            rw [HL.out, List.getD_eq_getElem?_getD, List.getElem?_map, List.getElem?_range' hk]; simp
          obtain ⟨N, hN⟩ : ∃ N, wr.heap.size = N := ⟨_, rfl⟩
          have hgN : g < N := by omega
          have hwN : w.heap.size + 1 ≤ N := by omega
          try rw [hN]
          go_loopw [19] (fun q wz => ∃ k : Nat, k ≤ 8 ∧ q = .int .i64 k ∧ At wz N (gW L k) ∧ Hid (RowG wz g G) ∧ Below w.heap.size w wz) (fun q _ => 8 - (intOf q).toNat)
          case atStart =>
            refine ⟨0, by omega, rfl, ?_, hrow.out.below (bl1 _ _), kB.alloc kB.size _⟩
            show At _ _ 0#128
            refine ⟨?_, ?_, ?_, ?_, ?_⟩ <;> simp [go_sem, hI_zero, lI_zero, ← hN]
          case round =>
            clear hrow kB hgs
            obtain ⟨k, hk, rfl, X, hrow, kB⟩ := hrel
            clear hN
            by_cases hlt : k < 8
            · have hk2 : (k : Int) < 8 := by omega
              obtain ⟨v0, v1⟩ := HB.out k
              have hc := (hrow.out k hlt).1
              have KS : ∀ w, Calls Try.prog 19 #[.agg #[.int .u64 (hI (gW L k)), .int .u64 (lI (gW L k))], .int .i64 16] w fun e w' => e = .returned (.agg #[.int .u64 (hI (gW L k <<< 16)), .int .u64 (lI (gW L k <<< 16))]) ∧ Below w.heap.size w w' := fun w => rshl_any (gW L k) 16 w
              have HW : Hid (gW L (k + 1) = (gW L k <<< 16) ||| mkW 0 (G k)) := by
                show _ = _
                rw [← HLG.out k hlt]; rfl
              obtain ⟨o1, o2⟩ := orLo (gW L k <<< 16) (G k) v0 v1
              rw [← HW.out] at o1 o2
              obtain ⟨z, HZ⟩ : ∃ z, Hid (gW L (k + 1) = z) := ⟨_, rfl⟩
              rw [HZ.out] at o1 o2
              generalize gW L k <<< 16 = y at *
              generalize gW L k = x at *
              obtain ⟨v, hv⟩ : ∃ v, G k = v := ⟨_, rfl⟩
              rw [hv] at o1 hc v0 v1 HW
              clear hv
              have hcv : IntKind.u64.wrap v = v := by simp [IntKind.wrap, IntKind.bits, IntKind.signed]; omega
              have HO2 : Hid (hI y = hI z) := o2
              clear HW o2
              obtain ⟨x0, x1, x2, x3, x4⟩ := id X
              go_wp2_with fail
              refine (KS _).mono ?_
              rintro e w5 ⟨rfl, hb5⟩
              clear KS x0 x1 x2 x3 x4
              have hs5 := hb5.size
              have X5 := (X.below hb5).set y
              have kB5 := bset2 (keepb hb5 kB) (C := N) (by omega) (.int .u64 (hI y)) (.int .u64 (lI y))
              have hrow5 : Hid (RowG ((w5.setCell ⟨N, 0, none⟩ (.int .u64 (hI y))).setCell ⟨N, 1, none⟩ (.int .u64 (lI y))) g G) := ((hrow.out.below hb5).other (by omega) _ _).other (by omega) _ _
              have hc5 := cell_wother (p := 1) (cell_wother (p := 0) (keepc hb5 hc) (show ¬ N = g by omega) (.int .u64 (hI y))) (show ¬ N = g by omega) (.int .u64 (lI y))
              obtain ⟨y0, y1, y2, y3, y4⟩ := X.below hb5
              obtain ⟨x0, x1, x2, x3, x4⟩ := id X5
              clear X kB hb5 hrow hc
              go_wp2_with fail
              go_region
              all_goals
                go_wp2
                go_roundw
                case rel => exact ⟨k + 1, by omega, by go_num, by rw [HZ.out]; exact (X5.wset z HO2.out).drew, hrow5.out.other (by omega) _ _, (kB5.setCell (p := ⟨N, 1, none⟩) (show w.heap.size ≤ N by omega) _).drew⟩
                case measure => simp [intOf]; omega
            · have hk8 : k = 8 := by omega
              subst hk8
              have HT : Hid (∀ q : Bool, (q = true → (B = 0 ∨ A + B ≤ 6)) → ∀ w, Calls Try.prog 7 #[.int .i64 128, .string (fmG (pcB u E G) (qdB G) q A B 9 0 ⟨#[]⟩)] w fun e w' => e = .returned (.tuple #[.agg #[.int .u64 (hI (gW L 8)), .int .u64 (lI (gW L 8))], .int .i64 0]) ∧ Below w.heap.size w w') := fun q hq w => by
                rw [HL.out]
                exact forms_parse _ _ (form_text u E A B G q hE hB HB.out HZ2.out hq) w
              clear HL HLG
              generalize gW L 8 = z at *
              cases qd
              · by_cases hb0 : B = 0
                · have Hb0 : Hid (B = 0) := hb0
                  have hb1 : ¬ (0 : Int) < (B : Int) := by omega
                  obtain ⟨T, HTT, KT⟩ : ∃ T, Hid (fmG (pcB u E G) (qdB G) false A B 9 0 ⟨#[]⟩ = T) ∧ Hid (∀ w, Calls Try.prog 7 #[.int .i64 128, .string T] w fun e w' => e = .returned (.tuple #[.agg #[.int .u64 (hI z), .int .u64 (lI z)], .int .i64 0]) ∧ Below w.heap.size w w') := ⟨_, rfl, HT.out false (by intro h; cases h)⟩
                  clear HT hi1 hi2 hlt hlt2
                  go_wp2
                  go_loopw [20, 21] (fun p q wz => ∃ (f i : Nat) (S : ByteArray), p = .string S ∧ q = .int .i64 i ∧ i ≤ 8 ∧ S.size ≤ 5 * i ∧ 8 < i + f ∧ Hid (fmG (pcB u E G) (qdB G) false A B f i S = T) ∧ Hid (RowG wz g G) ∧ At wz N z ∧ Below w.heap.size w wz) (fun _ q _ => 8 - (intOf q).toNat)
                  case atStart => exact ⟨9, 0, ⟨#[]⟩, rfl, rfl, by omega, by decide, by omega, HTT, hrow, X, kB⟩
                  case round =>
                    clear hrow kB X HTT
                    obtain ⟨f, i, S, rfl, rfl, hi8, hS, hf, HX, hrow, X, kB⟩ := hrel
                    obtain ⟨f, rfl⟩ : ∃ k, f = k + 1 := ⟨f - 1, by omega⟩
                    have HS : Hid (fmG (pcB u E G) (qdB G) false A B (f + 1) i S = if 8 ≤ i then S else if 0 < B ∧ i = A then fmG (pcB u E G) (qdB G) false A B f (i + B) (S ++ ⟨#[58, 58]⟩) else if false = true ∧ i = 6 then sepS S ++ qdB G else fmG (pcB u E G) (qdB G) false A B f (i + 1) (sepS S ++ pcB u E G i)) := rfl
                    by_cases hlt : i < 8
                    · have hi2 : (i : Int) < 8 := by omega
                      · have hgn : ¬ (0 < B ∧ i = A) := fun z => by omega
                        have HF : Hid (fmG (pcB u E G) (qdB G) false A B f (i + 1) (sepS S ++ pcB u E G i) = T) := by show _ = _; rw [← HX.out, HS.out, if_neg (by omega), if_neg hgn, if_neg (by simp)]
                        have hcell := (hrow.out i hlt).1
                        obtain ⟨v0, v1⟩ := HB.out i
                        obtain ⟨v, hv⟩ := Int.eq_ofNat_of_zero_le v0
                        rw [hv] at hcell
                        have KH := fun w => digits_any u (E + 1) v w (by omega) (by omega) (by omega)
                        have hE1 : ((E + 1 : Nat) : Int) = 1 + (E : Int) := by omega
                        rw [hE1] at KH
                        have hHb : (⟨(digL u (E + 1) v).toArray⟩ : ByteArray).size ≤ 4 := (digL_len u (E + 1) v (by omega) (by omega)).2
                        have HF2 : Hid (fmG (pcB u E G) (qdB G) false A B f (i + 1) (sepS S ++ ⟨(digL u (E + 1) v).toArray⟩) = T) := by
                          have := HF.out
                          unfold pcB at this ⊢
                          rw [hv, Int.toNat_natCast] at this; exact this
                        clear HF HS HX v0 v1 hv hE1 hgn
                        generalize (⟨(digL u (E + 1) v).toArray⟩ : ByteArray) = HV at *
                        by_cases h0 : S.size = 0
                        · have hem : S.toList.isEmpty = true := by rw [empty_is]; simp [h0]
                          have HSep : Hid (sepS S = S) := by show _ = _; unfold sepS; rw [if_pos (Or.inl h0)]
                          rw [HSep.out] at HF2
                          have hz2 : (S ++ HV).size = S.size + HV.size := ByteArray.size_append
                          go_wp2_with fail
                          refine (KH _).mono ?_
                          rintro e w5 ⟨rfl, hb5⟩
                          clear KH hcell
                          have hrow5 : Hid (RowG w5 g G) := hrow.out.below hb5
                          have X5 := X.below hb5
                          have kB5 := keepb hb5 kB
                          clear hb5 hrow kB X
                          go_wp2
                          go_roundw
                          case rel => first | exact ⟨f, i + 1, S ++ HV, rfl, by go_num, by omega, by rw [hz2]; omega, by omega, HF2, hrow5, X5, kB5⟩ | ((repeat apply Exists.intro); exact ⟨⟨f, i + 1, S ++ HV, rfl, by go_num, by omega, by rw [hz2]; omega, by omega, HF2, hrow5, X5, kB5⟩, rfl⟩)
                          case measure => simp [intOf]; omega
                        · have hem : S.toList.isEmpty = false := by rw [empty_is]; simp [h0]
                          obtain ⟨m, HM⟩ : ∃ m, Hid (S.size - 1 = m) := ⟨_, rfl⟩
                          have hmm : (S.size : Int) - 1 = (m : Int) := by have := HM.out; omega
                          have hms : m < S.size := by have := HM.out; omega
                          have hum : IntKind.i64.wrap (m : Int) = (m : Int) := by rw [IntKind.wrap_i64]; omega
                          have hbt := byteAt_in S m hms
                          have HSep : Hid (sepS S = if byteAt S m = 58 then S else S ++ ⟨#[58]⟩) := by
                            show _ = _
                            unfold sepS
                            rw [HM.out]
                            by_cases q : byteAt S m = 58
                            · rw [if_pos (Or.inr q), if_pos q]
                            · rw [if_neg (by simp [h0, q]), if_neg q]
                          generalize byteAt S m = lc at *
                          by_cases hl : lc = 58
                          · subst hl
                            rw [HSep.out, if_pos rfl] at HF2
                            have hz2 : (S ++ HV).size = S.size + HV.size := ByteArray.size_append
                            go_wp2_with fail
                            refine (KH _).mono ?_
                            rintro e w5 ⟨rfl, hb5⟩
                            clear KH hcell
                            have hrow5 : Hid (RowG w5 g G) := hrow.out.below hb5
                            have X5 := X.below hb5
                            have kB5 := keepb hb5 kB
                            clear hb5 hrow kB X
                            go_wp2
                            go_roundw
                            case rel => first | exact ⟨f, i + 1, S ++ HV, rfl, by go_num, by omega, by rw [hz2]; omega, by omega, HF2, hrow5, X5, kB5⟩ | ((repeat apply Exists.intro); exact ⟨⟨f, i + 1, S ++ HV, rfl, by go_num, by omega, by rw [hz2]; omega, by omega, HF2, hrow5, X5, kB5⟩, rfl⟩)
                            case measure => simp [intOf]; omega
                          · rw [HSep.out, if_neg hl] at HF2
                            have hlb : (lc != 58) = true := by simp [hl]
                            have hz1 : (S ++ ⟨#[58]⟩ : ByteArray).size = S.size + 1 := by rw [ByteArray.size_append]; rfl
                            have hz2 : (S ++ ⟨#[58]⟩ ++ HV).size = S.size + 1 + HV.size := by rw [ByteArray.size_append, hz1]
                            go_wp2_with fail
                            refine (KH _).mono ?_
                            rintro e w5 ⟨rfl, hb5⟩
                            clear KH hcell
                            have hrow5 : Hid (RowG w5 g G) := hrow.out.below hb5
                            have X5 := X.below hb5
                            have kB5 := keepb hb5 kB
                            clear hb5 hrow kB X
                            go_wp2
                            go_roundw
                            case rel => first | exact ⟨f, i + 1, S ++ ⟨#[58]⟩ ++ HV, rfl, by go_num, by omega, by rw [hz2]; omega, by omega, HF2, hrow5, X5, kB5⟩ | ((repeat apply Exists.intro); exact ⟨⟨f, i + 1, S ++ ⟨#[58]⟩ ++ HV, rfl, by go_num, by omega, by rw [hz2]; omega, by omega, HF2, hrow5, X5, kB5⟩, rfl⟩)
                            case measure => simp [intOf]; omega
                    · have hi2 : ¬ (i : Int) < 8 := by omega
                      have HF : S = T := by rw [← HX.out, HS.out, if_pos (by omega)]
                      have X5 := X
                      have kB5 := kB
                      clear HX HS X kB hrow
                      subst HF
                      have kBx := kB5
                      clear kB5
                      go_wp2_with fail
                      refine (KT.out _).mono ?_
                      rintro e w6 ⟨rfl, hb6⟩
                      have X7 := (X5.below hb6).below (bl1 _ (.cells #[.int .u64 (hI z), .int .u64 (lI z)] 24))
                      have kB7 := (keepb hb6 kBx).alloc (keepb hb6 kBx).size (.cells #[.int .u64 (hI z), .int .u64 (lI z)] 24)
                      obtain ⟨n0, n1, -, -, -⟩ := X7
                      clear hb6 kBx X5
                      go_wp2
                      go_ret
                      exact ⟨rfl, kB7⟩
                by_cases h6 : A + B ≤ 6
                · have hb1 : (0 : Int) < (B : Int) := by omega
                  obtain ⟨ab, HAB⟩ : ∃ ab : Nat, Hid (A + B = ab) := ⟨_, rfl⟩
                  have hab2 : IntKind.i64.wrap ((A : Int) + (B : Int)) = (ab : Int) := by rw [hab]; have := HAB.out; omega
                  clear hab
                  have h61 : ¬ (6 : Int) < (ab : Int) := by have := HAB.out; omega
                  obtain ⟨T, HTT, KT⟩ : ∃ T, Hid (fmG (pcB u E G) (qdB G) false A B 9 0 ⟨#[]⟩ = T) ∧ Hid (∀ w, Calls Try.prog 7 #[.int .i64 128, .string T] w fun e w' => e = .returned (.tuple #[.agg #[.int .u64 (hI z), .int .u64 (lI z)], .int .i64 0]) ∧ Below w.heap.size w w') := ⟨_, rfl, HT.out false (by intro h; cases h)⟩
                  clear HT hi1 hi2 hlt hlt2
                  go_wp2
                  go_loopw [20, 21] (fun p q wz => ∃ (f i : Nat) (S : ByteArray), p = .string S ∧ q = .int .i64 i ∧ i ≤ 8 ∧ S.size ≤ 5 * i ∧ 8 < i + f ∧ Hid (fmG (pcB u E G) (qdB G) false A B f i S = T) ∧ Hid (RowG wz g G) ∧ At wz N z ∧ Below w.heap.size w wz) (fun _ q _ => 8 - (intOf q).toNat)
                  case atStart => exact ⟨9, 0, ⟨#[]⟩, rfl, rfl, by omega, by decide, by omega, HTT, hrow, X, kB⟩
                  case round =>
                    clear hrow kB X HTT
                    obtain ⟨f, i, S, rfl, rfl, hi8, hS, hf, HX, hrow, X, kB⟩ := hrel
                    obtain ⟨f, rfl⟩ : ∃ k, f = k + 1 := ⟨f - 1, by omega⟩
                    have HS : Hid (fmG (pcB u E G) (qdB G) false A B (f + 1) i S = if 8 ≤ i then S else if 0 < B ∧ i = A then fmG (pcB u E G) (qdB G) false A B f (i + B) (S ++ ⟨#[58, 58]⟩) else if false = true ∧ i = 6 then sepS S ++ qdB G else fmG (pcB u E G) (qdB G) false A B f (i + 1) (sepS S ++ pcB u E G i)) := rfl
                    by_cases hlt : i < 8
                    · have hi2 : (i : Int) < 8 := by omega
                      by_cases hgap : i = A
                      · subst hgap
                        have HF : Hid (fmG (pcB u E G) (qdB G) false i B f (i + B) (S ++ ⟨#[58, 58]⟩) = T) := by show _ = _; rw [← HX.out, HS.out, if_neg (by omega), if_pos ⟨by omega, rfl⟩]
                        have hu1 : IntKind.i64.wrap ((i : Int) + (B : Int)) = (i : Int) + (B : Int) := by rw [IntKind.wrap_i64]; omega
                        have hu2 : IntKind.i64.wrap ((i : Int) + (B : Int) - 1) = (i : Int) + (B : Int) - 1 := by rw [IntKind.wrap_i64]; omega
                        have hsz : (S ++ ⟨#[58, 58]⟩ : ByteArray).size = S.size + 2 := by rw [ByteArray.size_append]; rfl
                        clear HS HX
                        go_wp2
                        go_roundw
                        case rel => exact ⟨f, i + B, S ++ ⟨#[58, 58]⟩, rfl, by go_num, by omega, by rw [hsz]; omega, by omega, HF, hrow, X, kB⟩
                        case measure => simp [intOf]; omega
                      · have hgn : ¬ (0 < B ∧ i = A) := fun z => hgap z.2
                        have hne : ((i : Int) == (A : Int)) = false := by simp; omega
                        have HF : Hid (fmG (pcB u E G) (qdB G) false A B f (i + 1) (sepS S ++ pcB u E G i) = T) := by show _ = _; rw [← HX.out, HS.out, if_neg (by omega), if_neg hgn, if_neg (by simp)]
                        have hcell := (hrow.out i hlt).1
                        obtain ⟨v0, v1⟩ := HB.out i
                        obtain ⟨v, hv⟩ := Int.eq_ofNat_of_zero_le v0
                        rw [hv] at hcell
                        have KH := fun w => digits_any u (E + 1) v w (by omega) (by omega) (by omega)
                        have hE1 : ((E + 1 : Nat) : Int) = 1 + (E : Int) := by omega
                        rw [hE1] at KH
                        have hHb : (⟨(digL u (E + 1) v).toArray⟩ : ByteArray).size ≤ 4 := (digL_len u (E + 1) v (by omega) (by omega)).2
                        have HF2 : Hid (fmG (pcB u E G) (qdB G) false A B f (i + 1) (sepS S ++ ⟨(digL u (E + 1) v).toArray⟩) = T) := by
                          have := HF.out
                          unfold pcB at this ⊢
                          rw [hv, Int.toNat_natCast] at this; exact this
                        clear HF HS HX v0 v1 hv hE1 hgn
                        generalize (⟨(digL u (E + 1) v).toArray⟩ : ByteArray) = HV at *
                        by_cases h0 : S.size = 0
                        · have hem : S.toList.isEmpty = true := by rw [empty_is]; simp [h0]
                          have HSep : Hid (sepS S = S) := by show _ = _; unfold sepS; rw [if_pos (Or.inl h0)]
                          rw [HSep.out] at HF2
                          have hz2 : (S ++ HV).size = S.size + HV.size := ByteArray.size_append
                          go_wp2_with fail
                          refine (KH _).mono ?_
                          rintro e w5 ⟨rfl, hb5⟩
                          clear KH hcell
                          have hrow5 : Hid (RowG w5 g G) := hrow.out.below hb5
                          have X5 := X.below hb5
                          have kB5 := keepb hb5 kB
                          clear hb5 hrow kB X
                          go_wp2
                          go_roundw
                          case rel => first | exact ⟨f, i + 1, S ++ HV, rfl, by go_num, by omega, by rw [hz2]; omega, by omega, HF2, hrow5, X5, kB5⟩ | ((repeat apply Exists.intro); exact ⟨⟨f, i + 1, S ++ HV, rfl, by go_num, by omega, by rw [hz2]; omega, by omega, HF2, hrow5, X5, kB5⟩, rfl⟩)
                          case measure => simp [intOf]; omega
                        · have hem : S.toList.isEmpty = false := by rw [empty_is]; simp [h0]
                          obtain ⟨m, HM⟩ : ∃ m, Hid (S.size - 1 = m) := ⟨_, rfl⟩
                          have hmm : (S.size : Int) - 1 = (m : Int) := by have := HM.out; omega
                          have hms : m < S.size := by have := HM.out; omega
                          have hum : IntKind.i64.wrap (m : Int) = (m : Int) := by rw [IntKind.wrap_i64]; omega
                          have hbt := byteAt_in S m hms
                          have HSep : Hid (sepS S = if byteAt S m = 58 then S else S ++ ⟨#[58]⟩) := by
                            show _ = _
                            unfold sepS
                            rw [HM.out]
                            by_cases q : byteAt S m = 58
                            · rw [if_pos (Or.inr q), if_pos q]
                            · rw [if_neg (by simp [h0, q]), if_neg q]
                          generalize byteAt S m = lc at *
                          by_cases hl : lc = 58
                          · subst hl
                            rw [HSep.out, if_pos rfl] at HF2
                            have hz2 : (S ++ HV).size = S.size + HV.size := ByteArray.size_append
                            go_wp2_with fail
                            refine (KH _).mono ?_
                            rintro e w5 ⟨rfl, hb5⟩
                            clear KH hcell
                            have hrow5 : Hid (RowG w5 g G) := hrow.out.below hb5
                            have X5 := X.below hb5
                            have kB5 := keepb hb5 kB
                            clear hb5 hrow kB X
                            go_wp2
                            go_roundw
                            case rel => first | exact ⟨f, i + 1, S ++ HV, rfl, by go_num, by omega, by rw [hz2]; omega, by omega, HF2, hrow5, X5, kB5⟩ | ((repeat apply Exists.intro); exact ⟨⟨f, i + 1, S ++ HV, rfl, by go_num, by omega, by rw [hz2]; omega, by omega, HF2, hrow5, X5, kB5⟩, rfl⟩)
                            case measure => simp [intOf]; omega
                          · rw [HSep.out, if_neg hl] at HF2
                            have hlb : (lc != 58) = true := by simp [hl]
                            have hz1 : (S ++ ⟨#[58]⟩ : ByteArray).size = S.size + 1 := by rw [ByteArray.size_append]; rfl
                            have hz2 : (S ++ ⟨#[58]⟩ ++ HV).size = S.size + 1 + HV.size := by rw [ByteArray.size_append, hz1]
                            go_wp2_with fail
                            refine (KH _).mono ?_
                            rintro e w5 ⟨rfl, hb5⟩
                            clear KH hcell
                            have hrow5 : Hid (RowG w5 g G) := hrow.out.below hb5
                            have X5 := X.below hb5
                            have kB5 := keepb hb5 kB
                            clear hb5 hrow kB X
                            go_wp2
                            go_roundw
                            case rel => first | exact ⟨f, i + 1, S ++ ⟨#[58]⟩ ++ HV, rfl, by go_num, by omega, by rw [hz2]; omega, by omega, HF2, hrow5, X5, kB5⟩ | ((repeat apply Exists.intro); exact ⟨⟨f, i + 1, S ++ ⟨#[58]⟩ ++ HV, rfl, by go_num, by omega, by rw [hz2]; omega, by omega, HF2, hrow5, X5, kB5⟩, rfl⟩)
                            case measure => simp [intOf]; omega
                    · have hi2 : ¬ (i : Int) < 8 := by omega
                      have HF : S = T := by rw [← HX.out, HS.out, if_pos (by omega)]
                      have X5 := X
                      have kB5 := kB
                      clear HX HS X kB hrow
                      subst HF
                      have kBx := kB5
                      clear kB5
                      go_wp2_with fail
                      refine (KT.out _).mono ?_
                      rintro e w6 ⟨rfl, hb6⟩
                      have X7 := (X5.below hb6).below (bl1 _ (.cells #[.int .u64 (hI z), .int .u64 (lI z)] 24))
                      have kB7 := (keepb hb6 kBx).alloc (keepb hb6 kBx).size (.cells #[.int .u64 (hI z), .int .u64 (lI z)] 24)
                      obtain ⟨n0, n1, -, -, -⟩ := X7
                      clear hb6 kBx X5
                      go_wp2
                      go_ret
                      exact ⟨rfl, kB7⟩
                · have hb1 : (0 : Int) < (B : Int) := by omega
                  obtain ⟨ab, HAB⟩ : ∃ ab : Nat, Hid (A + B = ab) := ⟨_, rfl⟩
                  have hab2 : IntKind.i64.wrap ((A : Int) + (B : Int)) = (ab : Int) := by rw [hab]; have := HAB.out; omega
                  clear hab
                  have h61 : (6 : Int) < (ab : Int) := by have := HAB.out; omega
                  obtain ⟨T, HTT, KT⟩ : ∃ T, Hid (fmG (pcB u E G) (qdB G) false A B 9 0 ⟨#[]⟩ = T) ∧ Hid (∀ w, Calls Try.prog 7 #[.int .i64 128, .string T] w fun e w' => e = .returned (.tuple #[.agg #[.int .u64 (hI z), .int .u64 (lI z)], .int .i64 0]) ∧ Below w.heap.size w w') := ⟨_, rfl, HT.out false (by intro h; cases h)⟩
                  clear HT hi1 hi2 hlt hlt2
                  go_wp2
                  go_loopw [20, 21] (fun p q wz => ∃ (f i : Nat) (S : ByteArray), p = .string S ∧ q = .int .i64 i ∧ i ≤ 8 ∧ S.size ≤ 5 * i ∧ 8 < i + f ∧ Hid (fmG (pcB u E G) (qdB G) false A B f i S = T) ∧ Hid (RowG wz g G) ∧ At wz N z ∧ Below w.heap.size w wz) (fun _ q _ => 8 - (intOf q).toNat)
                  case atStart => exact ⟨9, 0, ⟨#[]⟩, rfl, rfl, by omega, by decide, by omega, HTT, hrow, X, kB⟩
                  case round =>
                    clear hrow kB X HTT
                    obtain ⟨f, i, S, rfl, rfl, hi8, hS, hf, HX, hrow, X, kB⟩ := hrel
                    obtain ⟨f, rfl⟩ : ∃ k, f = k + 1 := ⟨f - 1, by omega⟩
                    have HS : Hid (fmG (pcB u E G) (qdB G) false A B (f + 1) i S = if 8 ≤ i then S else if 0 < B ∧ i = A then fmG (pcB u E G) (qdB G) false A B f (i + B) (S ++ ⟨#[58, 58]⟩) else if false = true ∧ i = 6 then sepS S ++ qdB G else fmG (pcB u E G) (qdB G) false A B f (i + 1) (sepS S ++ pcB u E G i)) := rfl
                    by_cases hlt : i < 8
                    · have hi2 : (i : Int) < 8 := by omega
                      by_cases hgap : i = A
                      · subst hgap
                        have HF : Hid (fmG (pcB u E G) (qdB G) false i B f (i + B) (S ++ ⟨#[58, 58]⟩) = T) := by show _ = _; rw [← HX.out, HS.out, if_neg (by omega), if_pos ⟨by omega, rfl⟩]
                        have hu1 : IntKind.i64.wrap ((i : Int) + (B : Int)) = (i : Int) + (B : Int) := by rw [IntKind.wrap_i64]; omega
                        have hu2 : IntKind.i64.wrap ((i : Int) + (B : Int) - 1) = (i : Int) + (B : Int) - 1 := by rw [IntKind.wrap_i64]; omega
                        have hsz : (S ++ ⟨#[58, 58]⟩ : ByteArray).size = S.size + 2 := by rw [ByteArray.size_append]; rfl
                        clear HS HX
                        go_wp2
                        go_roundw
                        case rel => exact ⟨f, i + B, S ++ ⟨#[58, 58]⟩, rfl, by go_num, by omega, by rw [hsz]; omega, by omega, HF, hrow, X, kB⟩
                        case measure => simp [intOf]; omega
                      · have hgn : ¬ (0 < B ∧ i = A) := fun z => hgap z.2
                        have hne : ((i : Int) == (A : Int)) = false := by simp; omega
                        have HF : Hid (fmG (pcB u E G) (qdB G) false A B f (i + 1) (sepS S ++ pcB u E G i) = T) := by show _ = _; rw [← HX.out, HS.out, if_neg (by omega), if_neg hgn, if_neg (by simp)]
                        have hcell := (hrow.out i hlt).1
                        obtain ⟨v0, v1⟩ := HB.out i
                        obtain ⟨v, hv⟩ := Int.eq_ofNat_of_zero_le v0
                        rw [hv] at hcell
                        have KH := fun w => digits_any u (E + 1) v w (by omega) (by omega) (by omega)
                        have hE1 : ((E + 1 : Nat) : Int) = 1 + (E : Int) := by omega
                        rw [hE1] at KH
                        have hHb : (⟨(digL u (E + 1) v).toArray⟩ : ByteArray).size ≤ 4 := (digL_len u (E + 1) v (by omega) (by omega)).2
                        have HF2 : Hid (fmG (pcB u E G) (qdB G) false A B f (i + 1) (sepS S ++ ⟨(digL u (E + 1) v).toArray⟩) = T) := by
                          have := HF.out
                          unfold pcB at this ⊢
                          rw [hv, Int.toNat_natCast] at this; exact this
                        clear HF HS HX v0 v1 hv hE1 hgn
                        generalize (⟨(digL u (E + 1) v).toArray⟩ : ByteArray) = HV at *
                        by_cases h0 : S.size = 0
                        · have hem : S.toList.isEmpty = true := by rw [empty_is]; simp [h0]
                          have HSep : Hid (sepS S = S) := by show _ = _; unfold sepS; rw [if_pos (Or.inl h0)]
                          rw [HSep.out] at HF2
                          have hz2 : (S ++ HV).size = S.size + HV.size := ByteArray.size_append
                          go_wp2_with fail
                          refine (KH _).mono ?_
                          rintro e w5 ⟨rfl, hb5⟩
                          clear KH hcell
                          have hrow5 : Hid (RowG w5 g G) := hrow.out.below hb5
                          have X5 := X.below hb5
                          have kB5 := keepb hb5 kB
                          clear hb5 hrow kB X
                          go_wp2
                          go_roundw
                          case rel => first | exact ⟨f, i + 1, S ++ HV, rfl, by go_num, by omega, by rw [hz2]; omega, by omega, HF2, hrow5, X5, kB5⟩ | ((repeat apply Exists.intro); exact ⟨⟨f, i + 1, S ++ HV, rfl, by go_num, by omega, by rw [hz2]; omega, by omega, HF2, hrow5, X5, kB5⟩, rfl⟩)
                          case measure => simp [intOf]; omega
                        · have hem : S.toList.isEmpty = false := by rw [empty_is]; simp [h0]
                          obtain ⟨m, HM⟩ : ∃ m, Hid (S.size - 1 = m) := ⟨_, rfl⟩
                          have hmm : (S.size : Int) - 1 = (m : Int) := by have := HM.out; omega
                          have hms : m < S.size := by have := HM.out; omega
                          have hum : IntKind.i64.wrap (m : Int) = (m : Int) := by rw [IntKind.wrap_i64]; omega
                          have hbt := byteAt_in S m hms
                          have HSep : Hid (sepS S = if byteAt S m = 58 then S else S ++ ⟨#[58]⟩) := by
                            show _ = _
                            unfold sepS
                            rw [HM.out]
                            by_cases q : byteAt S m = 58
                            · rw [if_pos (Or.inr q), if_pos q]
                            · rw [if_neg (by simp [h0, q]), if_neg q]
                          generalize byteAt S m = lc at *
                          by_cases hl : lc = 58
                          · subst hl
                            rw [HSep.out, if_pos rfl] at HF2
                            have hz2 : (S ++ HV).size = S.size + HV.size := ByteArray.size_append
                            go_wp2_with fail
                            refine (KH _).mono ?_
                            rintro e w5 ⟨rfl, hb5⟩
                            clear KH hcell
                            have hrow5 : Hid (RowG w5 g G) := hrow.out.below hb5
                            have X5 := X.below hb5
                            have kB5 := keepb hb5 kB
                            clear hb5 hrow kB X
                            go_wp2
                            go_roundw
                            case rel => first | exact ⟨f, i + 1, S ++ HV, rfl, by go_num, by omega, by rw [hz2]; omega, by omega, HF2, hrow5, X5, kB5⟩ | ((repeat apply Exists.intro); exact ⟨⟨f, i + 1, S ++ HV, rfl, by go_num, by omega, by rw [hz2]; omega, by omega, HF2, hrow5, X5, kB5⟩, rfl⟩)
                            case measure => simp [intOf]; omega
                          · rw [HSep.out, if_neg hl] at HF2
                            have hlb : (lc != 58) = true := by simp [hl]
                            have hz1 : (S ++ ⟨#[58]⟩ : ByteArray).size = S.size + 1 := by rw [ByteArray.size_append]; rfl
                            have hz2 : (S ++ ⟨#[58]⟩ ++ HV).size = S.size + 1 + HV.size := by rw [ByteArray.size_append, hz1]
                            go_wp2_with fail
                            refine (KH _).mono ?_
                            rintro e w5 ⟨rfl, hb5⟩
                            clear KH hcell
                            have hrow5 : Hid (RowG w5 g G) := hrow.out.below hb5
                            have X5 := X.below hb5
                            have kB5 := keepb hb5 kB
                            clear hb5 hrow kB X
                            go_wp2
                            go_roundw
                            case rel => first | exact ⟨f, i + 1, S ++ ⟨#[58]⟩ ++ HV, rfl, by go_num, by omega, by rw [hz2]; omega, by omega, HF2, hrow5, X5, kB5⟩ | ((repeat apply Exists.intro); exact ⟨⟨f, i + 1, S ++ ⟨#[58]⟩ ++ HV, rfl, by go_num, by omega, by rw [hz2]; omega, by omega, HF2, hrow5, X5, kB5⟩, rfl⟩)
                            case measure => simp [intOf]; omega
                    · have hi2 : ¬ (i : Int) < 8 := by omega
                      have HF : S = T := by rw [← HX.out, HS.out, if_pos (by omega)]
                      have X5 := X
                      have kB5 := kB
                      clear HX HS X kB hrow
                      subst HF
                      have kBx := kB5
                      clear kB5
                      go_wp2_with fail
                      refine (KT.out _).mono ?_
                      rintro e w6 ⟨rfl, hb6⟩
                      have X7 := (X5.below hb6).below (bl1 _ (.cells #[.int .u64 (hI z), .int .u64 (lI z)] 24))
                      have kB7 := (keepb hb6 kBx).alloc (keepb hb6 kBx).size (.cells #[.int .u64 (hI z), .int .u64 (lI z)] 24)
                      obtain ⟨n0, n1, -, -, -⟩ := X7
                      clear hb6 kBx X5
                      go_wp2
                      go_ret
                      exact ⟨rfl, kB7⟩
              · by_cases hb0 : B = 0
                · have Hb0 : Hid (B = 0) := hb0
                  have hb1 : ¬ (0 : Int) < (B : Int) := by omega
                  obtain ⟨T, HTT, KT⟩ : ∃ T, Hid (fmG (pcB u E G) (qdB G) true A B 9 0 ⟨#[]⟩ = T) ∧ Hid (∀ w, Calls Try.prog 7 #[.int .i64 128, .string T] w fun e w' => e = .returned (.tuple #[.agg #[.int .u64 (hI z), .int .u64 (lI z)], .int .i64 0]) ∧ Below w.heap.size w w') := ⟨_, rfl, HT.out true (by intro _; left; omega)⟩
                  clear HT hi1 hi2 hlt hlt2
                  go_wp2
                  go_loopw [20, 21] (fun p q wz => ∃ (f i : Nat) (S : ByteArray), p = .string S ∧ q = .int .i64 i ∧ i ≤ 8 ∧ S.size ≤ 5 * i ∧ 8 < i + f ∧ Hid (fmG (pcB u E G) (qdB G) true A B f i S = T) ∧ Hid (RowG wz g G) ∧ At wz N z ∧ Below w.heap.size w wz) (fun _ q _ => 8 - (intOf q).toNat)
                  case atStart => exact ⟨9, 0, ⟨#[]⟩, rfl, rfl, by omega, by decide, by omega, HTT, hrow, X, kB⟩
                  case round =>
                    clear hrow kB X HTT
                    obtain ⟨f, i, S, rfl, rfl, hi8, hS, hf, HX, hrow, X, kB⟩ := hrel
                    obtain ⟨f, rfl⟩ : ∃ k, f = k + 1 := ⟨f - 1, by omega⟩
                    have HS : Hid (fmG (pcB u E G) (qdB G) true A B (f + 1) i S = if 8 ≤ i then S else if 0 < B ∧ i = A then fmG (pcB u E G) (qdB G) true A B f (i + B) (S ++ ⟨#[58, 58]⟩) else if true = true ∧ i = 6 then sepS S ++ qdB G else fmG (pcB u E G) (qdB G) true A B f (i + 1) (sepS S ++ pcB u E G i)) := rfl
                    by_cases hlt : i < 8
                    · have hi2 : (i : Int) < 8 := by omega
                      · have hgn : ¬ (0 < B ∧ i = A) := fun z => by omega
                        by_cases h6 : i = 6
                        · subst h6
                          have HF : Hid (sepS S ++ qdB G = T) := by show _ = _; rw [← HX.out, HS.out, if_neg (by omega), if_neg hgn, if_pos ⟨rfl, rfl⟩]
                          obtain ⟨a0, a1⟩ := HB.out 6
                          obtain ⟨b0, b1⟩ := HB.out 7
                          obtain ⟨va, ga⟩ := Int.eq_ofNat_of_zero_le a0
                          obtain ⟨vb, gb⟩ := Int.eq_ofNat_of_zero_le b0
                          have KO := fun w => octets_any va vb w (by omega) (by omega)
                          have HF2 : Hid (sepS S ++ bL (quadL (va / 256) (va % 256) (vb / 256) (vb % 256)) = T) := by
                            have := HF.out
                            unfold qdB at this
                            rw [ga, gb, Int.toNat_natCast, Int.toNat_natCast] at this; exact this
                          have hHb : (bL (quadL (va / 256) (va % 256) (vb / 256) (vb % 256))).size ≤ 90 := by
                            rw [← quadL_eq]
                            have z1 := decB (va / 256) (by omega)
                            have z2 := decB (va % 256) (by omega)
                            have z3 := decB (vb / 256) (by omega)
                            have z4 := decB (vb % 256) (by omega)
                            have ed : (⟨#[46]⟩ : ByteArray).size = 1 := rfl
                            simp only [ByteArray.size_append]
                            omega
                          clear HF HS HX a0 a1 b0 b1 hgn
                          generalize bL (quadL (va / 256) (va % 256) (vb / 256) (vb % 256)) = HV at *
                          by_cases h0 : S.size = 0
                          · have hem : S.toList.isEmpty = true := by rw [empty_is]; simp [h0]
                            have HSep : Hid (sepS S = S) := by show _ = _; unfold sepS; rw [if_pos (Or.inl h0)]
                            rw [HSep.out] at HF2
                            have hz2 : (S ++ HV).size = S.size + HV.size := ByteArray.size_append
                            have hzz : S ++ HV = T := HF2.out
                            go_wp2_with fail
                            refine q_region (C := fun w' => RowG w' g G ∧ At w' N z ∧ Below w.heap.size w w') (by kernel_rfl) (by kernel_rfl) ⟨hrow.out, X.drew, kB.drew⟩ ?_
                            clear hrow X kB
                            refine q_run (v := .string (S)) (by rfl) ?_ ?_
                            · (intro w1 hC; clear hC; go_simp; first | done | (simp; done) | (simp [*]; done) | omega)
                            simp only [Act.put, List.setIfInBounds_toArray, List.set_cons_zero, List.set_cons_succ]
                            refine q_run (v := .slice (some ⟨g, 0, none⟩) 8 cp) (by rfl) ?_ ?_
                            · (intro w1 hC; clear hC; go_simp; first | done | (simp; done) | (simp [*]; done) | omega)
                            simp only [Act.put, List.setIfInBounds_toArray, List.set_cons_zero, List.set_cons_succ]
                            refine q_run (v := .pointer (some ⟨g, 6, none⟩)) (by rfl) ?_ ?_
                            · (intro w1 hC; clear hC; go_simp; first | done | (simp; done) | (simp [*]; done) | omega)
                            simp only [Act.put, List.setIfInBounds_toArray, List.set_cons_zero, List.set_cons_succ]
                            refine q_run (v := .int .i64 (va : Int)) (by rfl) ?_ ?_
                            · (intro w1 hC; have c0 := (hC.1 6 (by omega)).1; rw [ga] at c0; clear hC; go_simp; first | done | (simp [*]; done))
                            simp only [Act.put, List.setIfInBounds_toArray, List.set_cons_zero, List.set_cons_succ]
                            refine q_run (v := .slice (some ⟨g, 0, none⟩) 8 cp) (by rfl) ?_ ?_
                            · (intro w1 hC; clear hC; go_simp; first | done | (simp; done) | (simp [*]; done) | omega)
                            simp only [Act.put, List.setIfInBounds_toArray, List.set_cons_zero, List.set_cons_succ]
                            refine q_run (v := .pointer (some ⟨g, 7, none⟩)) (by rfl) ?_ ?_
                            · (intro w1 hC; clear hC; go_simp; first | done | (simp; done) | (simp [*]; done) | omega)
                            simp only [Act.put, List.setIfInBounds_toArray, List.set_cons_zero, List.set_cons_succ]
                            refine q_run (v := .int .i64 (vb : Int)) (by rfl) ?_ ?_
                            · (intro w1 hC; have c0 := (hC.1 7 (by omega)).1; rw [gb] at c0; clear hC; go_simp; first | done | (simp [*]; done))
                            simp only [Act.put, List.setIfInBounds_toArray, List.set_cons_zero, List.set_cons_succ]
                            refine q_call (v := .string HV) (f := 20) (args := #[.int .i64 (va : Int), .int .i64 (vb : Int)]) (by rfl) ?_ ?_ ?_
                            · (intro w1 hC; clear hC; go_simp)
                            · exact fun w1 hC => (KO w1).mono fun e w' ⟨he, hb⟩ => ⟨he, hC.1.below hb, hC.2.1.below hb, keepb hb hC.2.2⟩
                            simp only [Act.put, List.setIfInBounds_toArray, List.set_cons_zero, List.set_cons_succ]
                            refine q_run (v := .string (S ++ HV)) (by rfl) ?_ ?_
                            · (intro w1 hC; clear hC; go_simp; first | done | omega | (simp; omega))
                            simp only [Act.put, List.setIfInBounds_toArray, List.set_cons_zero, List.set_cons_succ]
                            refine q_run (v := .string (S ++ HV)) (by rfl) ?_ ?_
                            · (intro w1 hC; clear hC; go_simp; first | done | (simp; done) | (simp [*]; done) | omega)
                            simp only [Act.put, List.setIfInBounds_toArray, List.set_cons_zero, List.set_cons_succ]
                            refine wpQuiet_nil ?_
                            intro w5 hC
                            obtain ⟨-, X5, kB5⟩ := hC
                            clear KO
                            rw [hzz]
                            have kBx := kB5
                            clear kB5
                            go_wp2_with fail
                            refine (KT.out _).mono ?_
                            rintro e w6 ⟨rfl, hb6⟩
                            have X7 := (X5.below hb6).below (bl1 _ (.cells #[.int .u64 (hI z), .int .u64 (lI z)] 24))
                            have kB7 := (keepb hb6 kBx).alloc (keepb hb6 kBx).size (.cells #[.int .u64 (hI z), .int .u64 (lI z)] 24)
                            obtain ⟨n0, n1, -, -, -⟩ := X7
                            clear hb6 kBx X5
                            go_wp2
                            go_ret
                            exact ⟨rfl, kB7⟩
                          · have hem : S.toList.isEmpty = false := by rw [empty_is]; simp [h0]
                            obtain ⟨m, HM⟩ : ∃ m, Hid (S.size - 1 = m) := ⟨_, rfl⟩
                            have hmm : (S.size : Int) - 1 = (m : Int) := by have := HM.out; omega
                            have hms : m < S.size := by have := HM.out; omega
                            have hum : IntKind.i64.wrap (m : Int) = (m : Int) := by rw [IntKind.wrap_i64]; omega
                            have hbt := byteAt_in S m hms
                            have HSep : Hid (sepS S = if byteAt S m = 58 then S else S ++ ⟨#[58]⟩) := by
                              show _ = _
                              unfold sepS
                              rw [HM.out]
                              by_cases q : byteAt S m = 58
                              · rw [if_pos (Or.inr q), if_pos q]
                              · rw [if_neg (by simp [h0, q]), if_neg q]
                            generalize byteAt S m = lc at *
                            by_cases hl : lc = 58
                            · subst hl
                              rw [HSep.out, if_pos rfl] at HF2
                              have hz2 : (S ++ HV).size = S.size + HV.size := ByteArray.size_append
                              have hzz : S ++ HV = T := HF2.out
                              go_wp2_with fail
                              refine q_region (C := fun w' => RowG w' g G ∧ At w' N z ∧ Below w.heap.size w w') (by kernel_rfl) (by kernel_rfl) ⟨hrow.out, X.drew, kB.drew⟩ ?_
                              clear hrow X kB
                              refine q_run (v := .string (S)) (by rfl) ?_ ?_
                              · (intro w1 hC; clear hC; go_simp; first | done | (simp; done) | (simp [*]; done) | omega)
                              simp only [Act.put, List.setIfInBounds_toArray, List.set_cons_zero, List.set_cons_succ]
                              refine q_run (v := .slice (some ⟨g, 0, none⟩) 8 cp) (by rfl) ?_ ?_
                              · (intro w1 hC; clear hC; go_simp; first | done | (simp; done) | (simp [*]; done) | omega)
                              simp only [Act.put, List.setIfInBounds_toArray, List.set_cons_zero, List.set_cons_succ]
                              refine q_run (v := .pointer (some ⟨g, 6, none⟩)) (by rfl) ?_ ?_
                              · (intro w1 hC; clear hC; go_simp; first | done | (simp; done) | (simp [*]; done) | omega)
                              simp only [Act.put, List.setIfInBounds_toArray, List.set_cons_zero, List.set_cons_succ]
                              refine q_run (v := .int .i64 (va : Int)) (by rfl) ?_ ?_
                              · (intro w1 hC; have c0 := (hC.1 6 (by omega)).1; rw [ga] at c0; clear hC; go_simp; first | done | (simp [*]; done))
                              simp only [Act.put, List.setIfInBounds_toArray, List.set_cons_zero, List.set_cons_succ]
                              refine q_run (v := .slice (some ⟨g, 0, none⟩) 8 cp) (by rfl) ?_ ?_
                              · (intro w1 hC; clear hC; go_simp; first | done | (simp; done) | (simp [*]; done) | omega)
                              simp only [Act.put, List.setIfInBounds_toArray, List.set_cons_zero, List.set_cons_succ]
                              refine q_run (v := .pointer (some ⟨g, 7, none⟩)) (by rfl) ?_ ?_
                              · (intro w1 hC; clear hC; go_simp; first | done | (simp; done) | (simp [*]; done) | omega)
                              simp only [Act.put, List.setIfInBounds_toArray, List.set_cons_zero, List.set_cons_succ]
                              refine q_run (v := .int .i64 (vb : Int)) (by rfl) ?_ ?_
                              · (intro w1 hC; have c0 := (hC.1 7 (by omega)).1; rw [gb] at c0; clear hC; go_simp; first | done | (simp [*]; done))
                              simp only [Act.put, List.setIfInBounds_toArray, List.set_cons_zero, List.set_cons_succ]
                              refine q_call (v := .string HV) (f := 20) (args := #[.int .i64 (va : Int), .int .i64 (vb : Int)]) (by rfl) ?_ ?_ ?_
                              · (intro w1 hC; clear hC; go_simp)
                              · exact fun w1 hC => (KO w1).mono fun e w' ⟨he, hb⟩ => ⟨he, hC.1.below hb, hC.2.1.below hb, keepb hb hC.2.2⟩
                              simp only [Act.put, List.setIfInBounds_toArray, List.set_cons_zero, List.set_cons_succ]
                              refine q_run (v := .string (S ++ HV)) (by rfl) ?_ ?_
                              · (intro w1 hC; clear hC; go_simp; first | done | omega | (simp; omega))
                              simp only [Act.put, List.setIfInBounds_toArray, List.set_cons_zero, List.set_cons_succ]
                              refine q_run (v := .string (S ++ HV)) (by rfl) ?_ ?_
                              · (intro w1 hC; clear hC; go_simp; first | done | (simp; done) | (simp [*]; done) | omega)
                              simp only [Act.put, List.setIfInBounds_toArray, List.set_cons_zero, List.set_cons_succ]
                              refine wpQuiet_nil ?_
                              intro w5 hC
                              obtain ⟨-, X5, kB5⟩ := hC
                              clear KO
                              rw [hzz]
                              have kBx := kB5
                              clear kB5
                              go_wp2_with fail
                              refine (KT.out _).mono ?_
                              rintro e w6 ⟨rfl, hb6⟩
                              have X7 := (X5.below hb6).below (bl1 _ (.cells #[.int .u64 (hI z), .int .u64 (lI z)] 24))
                              have kB7 := (keepb hb6 kBx).alloc (keepb hb6 kBx).size (.cells #[.int .u64 (hI z), .int .u64 (lI z)] 24)
                              obtain ⟨n0, n1, -, -, -⟩ := X7
                              clear hb6 kBx X5
                              go_wp2
                              go_ret
                              exact ⟨rfl, kB7⟩
                            · rw [HSep.out, if_neg hl] at HF2
                              have hlb : (lc != 58) = true := by simp [hl]
                              have hz1 : (S ++ ⟨#[58]⟩ : ByteArray).size = S.size + 1 := by rw [ByteArray.size_append]; rfl
                              have hz2 : (S ++ ⟨#[58]⟩ ++ HV).size = S.size + 1 + HV.size := by rw [ByteArray.size_append, hz1]
                              have hzz : S ++ ⟨#[58]⟩ ++ HV = T := HF2.out
                              go_wp2_with fail
                              refine q_region (C := fun w' => RowG w' g G ∧ At w' N z ∧ Below w.heap.size w w') (by kernel_rfl) (by kernel_rfl) ⟨hrow.out, X.drew, kB.drew⟩ ?_
                              clear hrow X kB
                              refine q_run (v := .string (S ++ ⟨#[58]⟩)) (by rfl) ?_ ?_
                              · (intro w1 hC; clear hC; go_simp; first | done | (simp; done) | (simp [*]; done) | omega)
                              simp only [Act.put, List.setIfInBounds_toArray, List.set_cons_zero, List.set_cons_succ]
                              refine q_run (v := .slice (some ⟨g, 0, none⟩) 8 cp) (by rfl) ?_ ?_
                              · (intro w1 hC; clear hC; go_simp; first | done | (simp; done) | (simp [*]; done) | omega)
                              simp only [Act.put, List.setIfInBounds_toArray, List.set_cons_zero, List.set_cons_succ]
                              refine q_run (v := .pointer (some ⟨g, 6, none⟩)) (by rfl) ?_ ?_
                              · (intro w1 hC; clear hC; go_simp; first | done | (simp; done) | (simp [*]; done) | omega)
                              simp only [Act.put, List.setIfInBounds_toArray, List.set_cons_zero, List.set_cons_succ]
                              refine q_run (v := .int .i64 (va : Int)) (by rfl) ?_ ?_
                              · (intro w1 hC; have c0 := (hC.1 6 (by omega)).1; rw [ga] at c0; clear hC; go_simp; first | done | (simp [*]; done))
                              simp only [Act.put, List.setIfInBounds_toArray, List.set_cons_zero, List.set_cons_succ]
                              refine q_run (v := .slice (some ⟨g, 0, none⟩) 8 cp) (by rfl) ?_ ?_
                              · (intro w1 hC; clear hC; go_simp; first | done | (simp; done) | (simp [*]; done) | omega)
                              simp only [Act.put, List.setIfInBounds_toArray, List.set_cons_zero, List.set_cons_succ]
                              refine q_run (v := .pointer (some ⟨g, 7, none⟩)) (by rfl) ?_ ?_
                              · (intro w1 hC; clear hC; go_simp; first | done | (simp; done) | (simp [*]; done) | omega)
                              simp only [Act.put, List.setIfInBounds_toArray, List.set_cons_zero, List.set_cons_succ]
                              refine q_run (v := .int .i64 (vb : Int)) (by rfl) ?_ ?_
                              · (intro w1 hC; have c0 := (hC.1 7 (by omega)).1; rw [gb] at c0; clear hC; go_simp; first | done | (simp [*]; done))
                              simp only [Act.put, List.setIfInBounds_toArray, List.set_cons_zero, List.set_cons_succ]
                              refine q_call (v := .string HV) (f := 20) (args := #[.int .i64 (va : Int), .int .i64 (vb : Int)]) (by rfl) ?_ ?_ ?_
                              · (intro w1 hC; clear hC; go_simp)
                              · exact fun w1 hC => (KO w1).mono fun e w' ⟨he, hb⟩ => ⟨he, hC.1.below hb, hC.2.1.below hb, keepb hb hC.2.2⟩
                              simp only [Act.put, List.setIfInBounds_toArray, List.set_cons_zero, List.set_cons_succ]
                              refine q_run (v := .string (S ++ ⟨#[58]⟩ ++ HV)) (by rfl) ?_ ?_
                              · (intro w1 hC; clear hC; go_simp; first | done | omega | (simp; omega))
                              simp only [Act.put, List.setIfInBounds_toArray, List.set_cons_zero, List.set_cons_succ]
                              refine q_run (v := .string (S ++ ⟨#[58]⟩ ++ HV)) (by rfl) ?_ ?_
                              · (intro w1 hC; clear hC; go_simp; first | done | (simp; done) | (simp [*]; done) | omega)
                              simp only [Act.put, List.setIfInBounds_toArray, List.set_cons_zero, List.set_cons_succ]
                              refine wpQuiet_nil ?_
                              intro w5 hC
                              obtain ⟨-, X5, kB5⟩ := hC
                              clear KO
                              rw [hzz]
                              have kBx := kB5
                              clear kB5
                              go_wp2_with fail
                              refine (KT.out _).mono ?_
                              rintro e w6 ⟨rfl, hb6⟩
                              have X7 := (X5.below hb6).below (bl1 _ (.cells #[.int .u64 (hI z), .int .u64 (lI z)] 24))
                              have kB7 := (keepb hb6 kBx).alloc (keepb hb6 kBx).size (.cells #[.int .u64 (hI z), .int .u64 (lI z)] 24)
                              obtain ⟨n0, n1, -, -, -⟩ := X7
                              clear hb6 kBx X5
                              go_wp2
                              go_ret
                              exact ⟨rfl, kB7⟩
                        · have h62 : ((i : Int) == 6) = false := by simp; omega
                          have HF : Hid (fmG (pcB u E G) (qdB G) true A B f (i + 1) (sepS S ++ pcB u E G i) = T) := by show _ = _; rw [← HX.out, HS.out, if_neg (by omega), if_neg hgn, if_neg (by simp; omega)]
                          have hcell := (hrow.out i hlt).1
                          obtain ⟨v0, v1⟩ := HB.out i
                          obtain ⟨v, hv⟩ := Int.eq_ofNat_of_zero_le v0
                          rw [hv] at hcell
                          have KH := fun w => digits_any u (E + 1) v w (by omega) (by omega) (by omega)
                          have hE1 : ((E + 1 : Nat) : Int) = 1 + (E : Int) := by omega
                          rw [hE1] at KH
                          have hHb : (⟨(digL u (E + 1) v).toArray⟩ : ByteArray).size ≤ 4 := (digL_len u (E + 1) v (by omega) (by omega)).2
                          have HF2 : Hid (fmG (pcB u E G) (qdB G) true A B f (i + 1) (sepS S ++ ⟨(digL u (E + 1) v).toArray⟩) = T) := by
                            have := HF.out
                            unfold pcB at this ⊢
                            rw [hv, Int.toNat_natCast] at this; exact this
                          clear HF HS HX v0 v1 hv hE1 hgn
                          generalize (⟨(digL u (E + 1) v).toArray⟩ : ByteArray) = HV at *
                          by_cases h0 : S.size = 0
                          · have hem : S.toList.isEmpty = true := by rw [empty_is]; simp [h0]
                            have HSep : Hid (sepS S = S) := by show _ = _; unfold sepS; rw [if_pos (Or.inl h0)]
                            rw [HSep.out] at HF2
                            have hz2 : (S ++ HV).size = S.size + HV.size := ByteArray.size_append
                            go_wp2_with fail
                            refine (KH _).mono ?_
                            rintro e w5 ⟨rfl, hb5⟩
                            clear KH hcell
                            have hrow5 : Hid (RowG w5 g G) := hrow.out.below hb5
                            have X5 := X.below hb5
                            have kB5 := keepb hb5 kB
                            clear hb5 hrow kB X
                            go_wp2
                            go_roundw
                            case rel => first | exact ⟨f, i + 1, S ++ HV, rfl, by go_num, by omega, by rw [hz2]; omega, by omega, HF2, hrow5, X5, kB5⟩ | ((repeat apply Exists.intro); exact ⟨⟨f, i + 1, S ++ HV, rfl, by go_num, by omega, by rw [hz2]; omega, by omega, HF2, hrow5, X5, kB5⟩, rfl⟩)
                            case measure => simp [intOf]; omega
                          · have hem : S.toList.isEmpty = false := by rw [empty_is]; simp [h0]
                            obtain ⟨m, HM⟩ : ∃ m, Hid (S.size - 1 = m) := ⟨_, rfl⟩
                            have hmm : (S.size : Int) - 1 = (m : Int) := by have := HM.out; omega
                            have hms : m < S.size := by have := HM.out; omega
                            have hum : IntKind.i64.wrap (m : Int) = (m : Int) := by rw [IntKind.wrap_i64]; omega
                            have hbt := byteAt_in S m hms
                            have HSep : Hid (sepS S = if byteAt S m = 58 then S else S ++ ⟨#[58]⟩) := by
                              show _ = _
                              unfold sepS
                              rw [HM.out]
                              by_cases q : byteAt S m = 58
                              · rw [if_pos (Or.inr q), if_pos q]
                              · rw [if_neg (by simp [h0, q]), if_neg q]
                            generalize byteAt S m = lc at *
                            by_cases hl : lc = 58
                            · subst hl
                              rw [HSep.out, if_pos rfl] at HF2
                              have hz2 : (S ++ HV).size = S.size + HV.size := ByteArray.size_append
                              go_wp2_with fail
                              refine (KH _).mono ?_
                              rintro e w5 ⟨rfl, hb5⟩
                              clear KH hcell
                              have hrow5 : Hid (RowG w5 g G) := hrow.out.below hb5
                              have X5 := X.below hb5
                              have kB5 := keepb hb5 kB
                              clear hb5 hrow kB X
                              go_wp2
                              go_roundw
                              case rel => first | exact ⟨f, i + 1, S ++ HV, rfl, by go_num, by omega, by rw [hz2]; omega, by omega, HF2, hrow5, X5, kB5⟩ | ((repeat apply Exists.intro); exact ⟨⟨f, i + 1, S ++ HV, rfl, by go_num, by omega, by rw [hz2]; omega, by omega, HF2, hrow5, X5, kB5⟩, rfl⟩)
                              case measure => simp [intOf]; omega
                            · rw [HSep.out, if_neg hl] at HF2
                              have hlb : (lc != 58) = true := by simp [hl]
                              have hz1 : (S ++ ⟨#[58]⟩ : ByteArray).size = S.size + 1 := by rw [ByteArray.size_append]; rfl
                              have hz2 : (S ++ ⟨#[58]⟩ ++ HV).size = S.size + 1 + HV.size := by rw [ByteArray.size_append, hz1]
                              go_wp2_with fail
                              refine (KH _).mono ?_
                              rintro e w5 ⟨rfl, hb5⟩
                              clear KH hcell
                              have hrow5 : Hid (RowG w5 g G) := hrow.out.below hb5
                              have X5 := X.below hb5
                              have kB5 := keepb hb5 kB
                              clear hb5 hrow kB X
                              go_wp2
                              go_roundw
                              case rel => first | exact ⟨f, i + 1, S ++ ⟨#[58]⟩ ++ HV, rfl, by go_num, by omega, by rw [hz2]; omega, by omega, HF2, hrow5, X5, kB5⟩ | ((repeat apply Exists.intro); exact ⟨⟨f, i + 1, S ++ ⟨#[58]⟩ ++ HV, rfl, by go_num, by omega, by rw [hz2]; omega, by omega, HF2, hrow5, X5, kB5⟩, rfl⟩)
                              case measure => simp [intOf]; omega
                    · have hi2 : ¬ (i : Int) < 8 := by omega
                      have HF : S = T := by rw [← HX.out, HS.out, if_pos (by omega)]
                      have X5 := X
                      have kB5 := kB
                      clear HX HS X kB hrow
                      subst HF
                      have kBx := kB5
                      clear kB5
                      go_wp2_with fail
                      refine (KT.out _).mono ?_
                      rintro e w6 ⟨rfl, hb6⟩
                      have X7 := (X5.below hb6).below (bl1 _ (.cells #[.int .u64 (hI z), .int .u64 (lI z)] 24))
                      have kB7 := (keepb hb6 kBx).alloc (keepb hb6 kBx).size (.cells #[.int .u64 (hI z), .int .u64 (lI z)] 24)
                      obtain ⟨n0, n1, -, -, -⟩ := X7
                      clear hb6 kBx X5
                      go_wp2
                      go_ret
                      exact ⟨rfl, kB7⟩
                by_cases h6 : A + B ≤ 6
                · have hb1 : (0 : Int) < (B : Int) := by omega
                  obtain ⟨ab, HAB⟩ : ∃ ab : Nat, Hid (A + B = ab) := ⟨_, rfl⟩
                  have hab2 : IntKind.i64.wrap ((A : Int) + (B : Int)) = (ab : Int) := by rw [hab]; have := HAB.out; omega
                  clear hab
                  have h61 : ¬ (6 : Int) < (ab : Int) := by have := HAB.out; omega
                  obtain ⟨T, HTT, KT⟩ : ∃ T, Hid (fmG (pcB u E G) (qdB G) true A B 9 0 ⟨#[]⟩ = T) ∧ Hid (∀ w, Calls Try.prog 7 #[.int .i64 128, .string T] w fun e w' => e = .returned (.tuple #[.agg #[.int .u64 (hI z), .int .u64 (lI z)], .int .i64 0]) ∧ Below w.heap.size w w') := ⟨_, rfl, HT.out true (by intro _; right; omega)⟩
                  clear HT hi1 hi2 hlt hlt2
                  go_wp2
                  go_loopw [20, 21] (fun p q wz => ∃ (f i : Nat) (S : ByteArray), p = .string S ∧ q = .int .i64 i ∧ i ≤ 8 ∧ S.size ≤ 5 * i ∧ 8 < i + f ∧ Hid (fmG (pcB u E G) (qdB G) true A B f i S = T) ∧ Hid (RowG wz g G) ∧ At wz N z ∧ Below w.heap.size w wz) (fun _ q _ => 8 - (intOf q).toNat)
                  case atStart => exact ⟨9, 0, ⟨#[]⟩, rfl, rfl, by omega, by decide, by omega, HTT, hrow, X, kB⟩
                  case round =>
                    clear hrow kB X HTT
                    obtain ⟨f, i, S, rfl, rfl, hi8, hS, hf, HX, hrow, X, kB⟩ := hrel
                    obtain ⟨f, rfl⟩ : ∃ k, f = k + 1 := ⟨f - 1, by omega⟩
                    have HS : Hid (fmG (pcB u E G) (qdB G) true A B (f + 1) i S = if 8 ≤ i then S else if 0 < B ∧ i = A then fmG (pcB u E G) (qdB G) true A B f (i + B) (S ++ ⟨#[58, 58]⟩) else if true = true ∧ i = 6 then sepS S ++ qdB G else fmG (pcB u E G) (qdB G) true A B f (i + 1) (sepS S ++ pcB u E G i)) := rfl
                    by_cases hlt : i < 8
                    · have hi2 : (i : Int) < 8 := by omega
                      by_cases hgap : i = A
                      · subst hgap
                        have HF : Hid (fmG (pcB u E G) (qdB G) true i B f (i + B) (S ++ ⟨#[58, 58]⟩) = T) := by show _ = _; rw [← HX.out, HS.out, if_neg (by omega), if_pos ⟨by omega, rfl⟩]
                        have hu1 : IntKind.i64.wrap ((i : Int) + (B : Int)) = (i : Int) + (B : Int) := by rw [IntKind.wrap_i64]; omega
                        have hu2 : IntKind.i64.wrap ((i : Int) + (B : Int) - 1) = (i : Int) + (B : Int) - 1 := by rw [IntKind.wrap_i64]; omega
                        have hsz : (S ++ ⟨#[58, 58]⟩ : ByteArray).size = S.size + 2 := by rw [ByteArray.size_append]; rfl
                        clear HS HX
                        go_wp2
                        go_roundw
                        case rel => exact ⟨f, i + B, S ++ ⟨#[58, 58]⟩, rfl, by go_num, by omega, by rw [hsz]; omega, by omega, HF, hrow, X, kB⟩
                        case measure => simp [intOf]; omega
                      · have hgn : ¬ (0 < B ∧ i = A) := fun z => hgap z.2
                        have hne : ((i : Int) == (A : Int)) = false := by simp; omega
                        by_cases h6 : i = 6
                        · subst h6
                          have HF : Hid (sepS S ++ qdB G = T) := by show _ = _; rw [← HX.out, HS.out, if_neg (by omega), if_neg hgn, if_pos ⟨rfl, rfl⟩]
                          obtain ⟨a0, a1⟩ := HB.out 6
                          obtain ⟨b0, b1⟩ := HB.out 7
                          obtain ⟨va, ga⟩ := Int.eq_ofNat_of_zero_le a0
                          obtain ⟨vb, gb⟩ := Int.eq_ofNat_of_zero_le b0
                          have KO := fun w => octets_any va vb w (by omega) (by omega)
                          have HF2 : Hid (sepS S ++ bL (quadL (va / 256) (va % 256) (vb / 256) (vb % 256)) = T) := by
                            have := HF.out
                            unfold qdB at this
                            rw [ga, gb, Int.toNat_natCast, Int.toNat_natCast] at this; exact this
                          have hHb : (bL (quadL (va / 256) (va % 256) (vb / 256) (vb % 256))).size ≤ 90 := by
                            rw [← quadL_eq]
                            have z1 := decB (va / 256) (by omega)
                            have z2 := decB (va % 256) (by omega)
                            have z3 := decB (vb / 256) (by omega)
                            have z4 := decB (vb % 256) (by omega)
                            have ed : (⟨#[46]⟩ : ByteArray).size = 1 := rfl
                            simp only [ByteArray.size_append]
                            omega
                          clear HF HS HX a0 a1 b0 b1 hgn
                          generalize bL (quadL (va / 256) (va % 256) (vb / 256) (vb % 256)) = HV at *
                          by_cases h0 : S.size = 0
                          · have hem : S.toList.isEmpty = true := by rw [empty_is]; simp [h0]
                            have HSep : Hid (sepS S = S) := by show _ = _; unfold sepS; rw [if_pos (Or.inl h0)]
                            rw [HSep.out] at HF2
                            have hz2 : (S ++ HV).size = S.size + HV.size := ByteArray.size_append
                            have hzz : S ++ HV = T := HF2.out
                            go_wp2_with fail
                            refine q_region (C := fun w' => RowG w' g G ∧ At w' N z ∧ Below w.heap.size w w') (by kernel_rfl) (by kernel_rfl) ⟨hrow.out, X.drew, kB.drew⟩ ?_
                            clear hrow X kB
                            refine q_run (v := .string (S)) (by rfl) ?_ ?_
                            · (intro w1 hC; clear hC; go_simp; first | done | (simp; done) | (simp [*]; done) | omega)
                            simp only [Act.put, List.setIfInBounds_toArray, List.set_cons_zero, List.set_cons_succ]
                            refine q_run (v := .slice (some ⟨g, 0, none⟩) 8 cp) (by rfl) ?_ ?_
                            · (intro w1 hC; clear hC; go_simp; first | done | (simp; done) | (simp [*]; done) | omega)
                            simp only [Act.put, List.setIfInBounds_toArray, List.set_cons_zero, List.set_cons_succ]
                            refine q_run (v := .pointer (some ⟨g, 6, none⟩)) (by rfl) ?_ ?_
                            · (intro w1 hC; clear hC; go_simp; first | done | (simp; done) | (simp [*]; done) | omega)
                            simp only [Act.put, List.setIfInBounds_toArray, List.set_cons_zero, List.set_cons_succ]
                            refine q_run (v := .int .i64 (va : Int)) (by rfl) ?_ ?_
                            · (intro w1 hC; have c0 := (hC.1 6 (by omega)).1; rw [ga] at c0; clear hC; go_simp; first | done | (simp [*]; done))
                            simp only [Act.put, List.setIfInBounds_toArray, List.set_cons_zero, List.set_cons_succ]
                            refine q_run (v := .slice (some ⟨g, 0, none⟩) 8 cp) (by rfl) ?_ ?_
                            · (intro w1 hC; clear hC; go_simp; first | done | (simp; done) | (simp [*]; done) | omega)
                            simp only [Act.put, List.setIfInBounds_toArray, List.set_cons_zero, List.set_cons_succ]
                            refine q_run (v := .pointer (some ⟨g, 7, none⟩)) (by rfl) ?_ ?_
                            · (intro w1 hC; clear hC; go_simp; first | done | (simp; done) | (simp [*]; done) | omega)
                            simp only [Act.put, List.setIfInBounds_toArray, List.set_cons_zero, List.set_cons_succ]
                            refine q_run (v := .int .i64 (vb : Int)) (by rfl) ?_ ?_
                            · (intro w1 hC; have c0 := (hC.1 7 (by omega)).1; rw [gb] at c0; clear hC; go_simp; first | done | (simp [*]; done))
                            simp only [Act.put, List.setIfInBounds_toArray, List.set_cons_zero, List.set_cons_succ]
                            refine q_call (v := .string HV) (f := 20) (args := #[.int .i64 (va : Int), .int .i64 (vb : Int)]) (by rfl) ?_ ?_ ?_
                            · (intro w1 hC; clear hC; go_simp)
                            · exact fun w1 hC => (KO w1).mono fun e w' ⟨he, hb⟩ => ⟨he, hC.1.below hb, hC.2.1.below hb, keepb hb hC.2.2⟩
                            simp only [Act.put, List.setIfInBounds_toArray, List.set_cons_zero, List.set_cons_succ]
                            refine q_run (v := .string (S ++ HV)) (by rfl) ?_ ?_
                            · (intro w1 hC; clear hC; go_simp; first | done | omega | (simp; omega))
                            simp only [Act.put, List.setIfInBounds_toArray, List.set_cons_zero, List.set_cons_succ]
                            refine q_run (v := .string (S ++ HV)) (by rfl) ?_ ?_
                            · (intro w1 hC; clear hC; go_simp; first | done | (simp; done) | (simp [*]; done) | omega)
                            simp only [Act.put, List.setIfInBounds_toArray, List.set_cons_zero, List.set_cons_succ]
                            refine wpQuiet_nil ?_
                            intro w5 hC
                            obtain ⟨-, X5, kB5⟩ := hC
                            clear KO
                            rw [hzz]
                            have kBx := kB5
                            clear kB5
                            go_wp2_with fail
                            refine (KT.out _).mono ?_
                            rintro e w6 ⟨rfl, hb6⟩
                            have X7 := (X5.below hb6).below (bl1 _ (.cells #[.int .u64 (hI z), .int .u64 (lI z)] 24))
                            have kB7 := (keepb hb6 kBx).alloc (keepb hb6 kBx).size (.cells #[.int .u64 (hI z), .int .u64 (lI z)] 24)
                            obtain ⟨n0, n1, -, -, -⟩ := X7
                            clear hb6 kBx X5
                            go_wp2
                            go_ret
                            exact ⟨rfl, kB7⟩
                          · have hem : S.toList.isEmpty = false := by rw [empty_is]; simp [h0]
                            obtain ⟨m, HM⟩ : ∃ m, Hid (S.size - 1 = m) := ⟨_, rfl⟩
                            have hmm : (S.size : Int) - 1 = (m : Int) := by have := HM.out; omega
                            have hms : m < S.size := by have := HM.out; omega
                            have hum : IntKind.i64.wrap (m : Int) = (m : Int) := by rw [IntKind.wrap_i64]; omega
                            have hbt := byteAt_in S m hms
                            have HSep : Hid (sepS S = if byteAt S m = 58 then S else S ++ ⟨#[58]⟩) := by
                              show _ = _
                              unfold sepS
                              rw [HM.out]
                              by_cases q : byteAt S m = 58
                              · rw [if_pos (Or.inr q), if_pos q]
                              · rw [if_neg (by simp [h0, q]), if_neg q]
                            generalize byteAt S m = lc at *
                            by_cases hl : lc = 58
                            · subst hl
                              rw [HSep.out, if_pos rfl] at HF2
                              have hz2 : (S ++ HV).size = S.size + HV.size := ByteArray.size_append
                              have hzz : S ++ HV = T := HF2.out
                              go_wp2_with fail
                              refine q_region (C := fun w' => RowG w' g G ∧ At w' N z ∧ Below w.heap.size w w') (by kernel_rfl) (by kernel_rfl) ⟨hrow.out, X.drew, kB.drew⟩ ?_
                              clear hrow X kB
                              refine q_run (v := .string (S)) (by rfl) ?_ ?_
                              · (intro w1 hC; clear hC; go_simp; first | done | (simp; done) | (simp [*]; done) | omega)
                              simp only [Act.put, List.setIfInBounds_toArray, List.set_cons_zero, List.set_cons_succ]
                              refine q_run (v := .slice (some ⟨g, 0, none⟩) 8 cp) (by rfl) ?_ ?_
                              · (intro w1 hC; clear hC; go_simp; first | done | (simp; done) | (simp [*]; done) | omega)
                              simp only [Act.put, List.setIfInBounds_toArray, List.set_cons_zero, List.set_cons_succ]
                              refine q_run (v := .pointer (some ⟨g, 6, none⟩)) (by rfl) ?_ ?_
                              · (intro w1 hC; clear hC; go_simp; first | done | (simp; done) | (simp [*]; done) | omega)
                              simp only [Act.put, List.setIfInBounds_toArray, List.set_cons_zero, List.set_cons_succ]
                              refine q_run (v := .int .i64 (va : Int)) (by rfl) ?_ ?_
                              · (intro w1 hC; have c0 := (hC.1 6 (by omega)).1; rw [ga] at c0; clear hC; go_simp; first | done | (simp [*]; done))
                              simp only [Act.put, List.setIfInBounds_toArray, List.set_cons_zero, List.set_cons_succ]
                              refine q_run (v := .slice (some ⟨g, 0, none⟩) 8 cp) (by rfl) ?_ ?_
                              · (intro w1 hC; clear hC; go_simp; first | done | (simp; done) | (simp [*]; done) | omega)
                              simp only [Act.put, List.setIfInBounds_toArray, List.set_cons_zero, List.set_cons_succ]
                              refine q_run (v := .pointer (some ⟨g, 7, none⟩)) (by rfl) ?_ ?_
                              · (intro w1 hC; clear hC; go_simp; first | done | (simp; done) | (simp [*]; done) | omega)
                              simp only [Act.put, List.setIfInBounds_toArray, List.set_cons_zero, List.set_cons_succ]
                              refine q_run (v := .int .i64 (vb : Int)) (by rfl) ?_ ?_
                              · (intro w1 hC; have c0 := (hC.1 7 (by omega)).1; rw [gb] at c0; clear hC; go_simp; first | done | (simp [*]; done))
                              simp only [Act.put, List.setIfInBounds_toArray, List.set_cons_zero, List.set_cons_succ]
                              refine q_call (v := .string HV) (f := 20) (args := #[.int .i64 (va : Int), .int .i64 (vb : Int)]) (by rfl) ?_ ?_ ?_
                              · (intro w1 hC; clear hC; go_simp)
                              · exact fun w1 hC => (KO w1).mono fun e w' ⟨he, hb⟩ => ⟨he, hC.1.below hb, hC.2.1.below hb, keepb hb hC.2.2⟩
                              simp only [Act.put, List.setIfInBounds_toArray, List.set_cons_zero, List.set_cons_succ]
                              refine q_run (v := .string (S ++ HV)) (by rfl) ?_ ?_
                              · (intro w1 hC; clear hC; go_simp; first | done | omega | (simp; omega))
                              simp only [Act.put, List.setIfInBounds_toArray, List.set_cons_zero, List.set_cons_succ]
                              refine q_run (v := .string (S ++ HV)) (by rfl) ?_ ?_
                              · (intro w1 hC; clear hC; go_simp; first | done | (simp; done) | (simp [*]; done) | omega)
                              simp only [Act.put, List.setIfInBounds_toArray, List.set_cons_zero, List.set_cons_succ]
                              refine wpQuiet_nil ?_
                              intro w5 hC
                              obtain ⟨-, X5, kB5⟩ := hC
                              clear KO
                              rw [hzz]
                              have kBx := kB5
                              clear kB5
                              go_wp2_with fail
                              refine (KT.out _).mono ?_
                              rintro e w6 ⟨rfl, hb6⟩
                              have X7 := (X5.below hb6).below (bl1 _ (.cells #[.int .u64 (hI z), .int .u64 (lI z)] 24))
                              have kB7 := (keepb hb6 kBx).alloc (keepb hb6 kBx).size (.cells #[.int .u64 (hI z), .int .u64 (lI z)] 24)
                              obtain ⟨n0, n1, -, -, -⟩ := X7
                              clear hb6 kBx X5
                              go_wp2
                              go_ret
                              exact ⟨rfl, kB7⟩
                            · rw [HSep.out, if_neg hl] at HF2
                              have hlb : (lc != 58) = true := by simp [hl]
                              have hz1 : (S ++ ⟨#[58]⟩ : ByteArray).size = S.size + 1 := by rw [ByteArray.size_append]; rfl
                              have hz2 : (S ++ ⟨#[58]⟩ ++ HV).size = S.size + 1 + HV.size := by rw [ByteArray.size_append, hz1]
                              have hzz : S ++ ⟨#[58]⟩ ++ HV = T := HF2.out
                              go_wp2_with fail
                              refine q_region (C := fun w' => RowG w' g G ∧ At w' N z ∧ Below w.heap.size w w') (by kernel_rfl) (by kernel_rfl) ⟨hrow.out, X.drew, kB.drew⟩ ?_
                              clear hrow X kB
                              refine q_run (v := .string (S ++ ⟨#[58]⟩)) (by rfl) ?_ ?_
                              · (intro w1 hC; clear hC; go_simp; first | done | (simp; done) | (simp [*]; done) | omega)
                              simp only [Act.put, List.setIfInBounds_toArray, List.set_cons_zero, List.set_cons_succ]
                              refine q_run (v := .slice (some ⟨g, 0, none⟩) 8 cp) (by rfl) ?_ ?_
                              · (intro w1 hC; clear hC; go_simp; first | done | (simp; done) | (simp [*]; done) | omega)
                              simp only [Act.put, List.setIfInBounds_toArray, List.set_cons_zero, List.set_cons_succ]
                              refine q_run (v := .pointer (some ⟨g, 6, none⟩)) (by rfl) ?_ ?_
                              · (intro w1 hC; clear hC; go_simp; first | done | (simp; done) | (simp [*]; done) | omega)
                              simp only [Act.put, List.setIfInBounds_toArray, List.set_cons_zero, List.set_cons_succ]
                              refine q_run (v := .int .i64 (va : Int)) (by rfl) ?_ ?_
                              · (intro w1 hC; have c0 := (hC.1 6 (by omega)).1; rw [ga] at c0; clear hC; go_simp; first | done | (simp [*]; done))
                              simp only [Act.put, List.setIfInBounds_toArray, List.set_cons_zero, List.set_cons_succ]
                              refine q_run (v := .slice (some ⟨g, 0, none⟩) 8 cp) (by rfl) ?_ ?_
                              · (intro w1 hC; clear hC; go_simp; first | done | (simp; done) | (simp [*]; done) | omega)
                              simp only [Act.put, List.setIfInBounds_toArray, List.set_cons_zero, List.set_cons_succ]
                              refine q_run (v := .pointer (some ⟨g, 7, none⟩)) (by rfl) ?_ ?_
                              · (intro w1 hC; clear hC; go_simp; first | done | (simp; done) | (simp [*]; done) | omega)
                              simp only [Act.put, List.setIfInBounds_toArray, List.set_cons_zero, List.set_cons_succ]
                              refine q_run (v := .int .i64 (vb : Int)) (by rfl) ?_ ?_
                              · (intro w1 hC; have c0 := (hC.1 7 (by omega)).1; rw [gb] at c0; clear hC; go_simp; first | done | (simp [*]; done))
                              simp only [Act.put, List.setIfInBounds_toArray, List.set_cons_zero, List.set_cons_succ]
                              refine q_call (v := .string HV) (f := 20) (args := #[.int .i64 (va : Int), .int .i64 (vb : Int)]) (by rfl) ?_ ?_ ?_
                              · (intro w1 hC; clear hC; go_simp)
                              · exact fun w1 hC => (KO w1).mono fun e w' ⟨he, hb⟩ => ⟨he, hC.1.below hb, hC.2.1.below hb, keepb hb hC.2.2⟩
                              simp only [Act.put, List.setIfInBounds_toArray, List.set_cons_zero, List.set_cons_succ]
                              refine q_run (v := .string (S ++ ⟨#[58]⟩ ++ HV)) (by rfl) ?_ ?_
                              · (intro w1 hC; clear hC; go_simp; first | done | omega | (simp; omega))
                              simp only [Act.put, List.setIfInBounds_toArray, List.set_cons_zero, List.set_cons_succ]
                              refine q_run (v := .string (S ++ ⟨#[58]⟩ ++ HV)) (by rfl) ?_ ?_
                              · (intro w1 hC; clear hC; go_simp; first | done | (simp; done) | (simp [*]; done) | omega)
                              simp only [Act.put, List.setIfInBounds_toArray, List.set_cons_zero, List.set_cons_succ]
                              refine wpQuiet_nil ?_
                              intro w5 hC
                              obtain ⟨-, X5, kB5⟩ := hC
                              clear KO
                              rw [hzz]
                              have kBx := kB5
                              clear kB5
                              go_wp2_with fail
                              refine (KT.out _).mono ?_
                              rintro e w6 ⟨rfl, hb6⟩
                              have X7 := (X5.below hb6).below (bl1 _ (.cells #[.int .u64 (hI z), .int .u64 (lI z)] 24))
                              have kB7 := (keepb hb6 kBx).alloc (keepb hb6 kBx).size (.cells #[.int .u64 (hI z), .int .u64 (lI z)] 24)
                              obtain ⟨n0, n1, -, -, -⟩ := X7
                              clear hb6 kBx X5
                              go_wp2
                              go_ret
                              exact ⟨rfl, kB7⟩
                        · have h62 : ((i : Int) == 6) = false := by simp; omega
                          have HF : Hid (fmG (pcB u E G) (qdB G) true A B f (i + 1) (sepS S ++ pcB u E G i) = T) := by show _ = _; rw [← HX.out, HS.out, if_neg (by omega), if_neg hgn, if_neg (by simp; omega)]
                          have hcell := (hrow.out i hlt).1
                          obtain ⟨v0, v1⟩ := HB.out i
                          obtain ⟨v, hv⟩ := Int.eq_ofNat_of_zero_le v0
                          rw [hv] at hcell
                          have KH := fun w => digits_any u (E + 1) v w (by omega) (by omega) (by omega)
                          have hE1 : ((E + 1 : Nat) : Int) = 1 + (E : Int) := by omega
                          rw [hE1] at KH
                          have hHb : (⟨(digL u (E + 1) v).toArray⟩ : ByteArray).size ≤ 4 := (digL_len u (E + 1) v (by omega) (by omega)).2
                          have HF2 : Hid (fmG (pcB u E G) (qdB G) true A B f (i + 1) (sepS S ++ ⟨(digL u (E + 1) v).toArray⟩) = T) := by
                            have := HF.out
                            unfold pcB at this ⊢
                            rw [hv, Int.toNat_natCast] at this; exact this
                          clear HF HS HX v0 v1 hv hE1 hgn
                          generalize (⟨(digL u (E + 1) v).toArray⟩ : ByteArray) = HV at *
                          by_cases h0 : S.size = 0
                          · have hem : S.toList.isEmpty = true := by rw [empty_is]; simp [h0]
                            have HSep : Hid (sepS S = S) := by show _ = _; unfold sepS; rw [if_pos (Or.inl h0)]
                            rw [HSep.out] at HF2
                            have hz2 : (S ++ HV).size = S.size + HV.size := ByteArray.size_append
                            go_wp2_with fail
                            refine (KH _).mono ?_
                            rintro e w5 ⟨rfl, hb5⟩
                            clear KH hcell
                            have hrow5 : Hid (RowG w5 g G) := hrow.out.below hb5
                            have X5 := X.below hb5
                            have kB5 := keepb hb5 kB
                            clear hb5 hrow kB X
                            go_wp2
                            go_roundw
                            case rel => first | exact ⟨f, i + 1, S ++ HV, rfl, by go_num, by omega, by rw [hz2]; omega, by omega, HF2, hrow5, X5, kB5⟩ | ((repeat apply Exists.intro); exact ⟨⟨f, i + 1, S ++ HV, rfl, by go_num, by omega, by rw [hz2]; omega, by omega, HF2, hrow5, X5, kB5⟩, rfl⟩)
                            case measure => simp [intOf]; omega
                          · have hem : S.toList.isEmpty = false := by rw [empty_is]; simp [h0]
                            obtain ⟨m, HM⟩ : ∃ m, Hid (S.size - 1 = m) := ⟨_, rfl⟩
                            have hmm : (S.size : Int) - 1 = (m : Int) := by have := HM.out; omega
                            have hms : m < S.size := by have := HM.out; omega
                            have hum : IntKind.i64.wrap (m : Int) = (m : Int) := by rw [IntKind.wrap_i64]; omega
                            have hbt := byteAt_in S m hms
                            have HSep : Hid (sepS S = if byteAt S m = 58 then S else S ++ ⟨#[58]⟩) := by
                              show _ = _
                              unfold sepS
                              rw [HM.out]
                              by_cases q : byteAt S m = 58
                              · rw [if_pos (Or.inr q), if_pos q]
                              · rw [if_neg (by simp [h0, q]), if_neg q]
                            generalize byteAt S m = lc at *
                            by_cases hl : lc = 58
                            · subst hl
                              rw [HSep.out, if_pos rfl] at HF2
                              have hz2 : (S ++ HV).size = S.size + HV.size := ByteArray.size_append
                              go_wp2_with fail
                              refine (KH _).mono ?_
                              rintro e w5 ⟨rfl, hb5⟩
                              clear KH hcell
                              have hrow5 : Hid (RowG w5 g G) := hrow.out.below hb5
                              have X5 := X.below hb5
                              have kB5 := keepb hb5 kB
                              clear hb5 hrow kB X
                              go_wp2
                              go_roundw
                              case rel => first | exact ⟨f, i + 1, S ++ HV, rfl, by go_num, by omega, by rw [hz2]; omega, by omega, HF2, hrow5, X5, kB5⟩ | ((repeat apply Exists.intro); exact ⟨⟨f, i + 1, S ++ HV, rfl, by go_num, by omega, by rw [hz2]; omega, by omega, HF2, hrow5, X5, kB5⟩, rfl⟩)
                              case measure => simp [intOf]; omega
                            · rw [HSep.out, if_neg hl] at HF2
                              have hlb : (lc != 58) = true := by simp [hl]
                              have hz1 : (S ++ ⟨#[58]⟩ : ByteArray).size = S.size + 1 := by rw [ByteArray.size_append]; rfl
                              have hz2 : (S ++ ⟨#[58]⟩ ++ HV).size = S.size + 1 + HV.size := by rw [ByteArray.size_append, hz1]
                              go_wp2_with fail
                              refine (KH _).mono ?_
                              rintro e w5 ⟨rfl, hb5⟩
                              clear KH hcell
                              have hrow5 : Hid (RowG w5 g G) := hrow.out.below hb5
                              have X5 := X.below hb5
                              have kB5 := keepb hb5 kB
                              clear hb5 hrow kB X
                              go_wp2
                              go_roundw
                              case rel => first | exact ⟨f, i + 1, S ++ ⟨#[58]⟩ ++ HV, rfl, by go_num, by omega, by rw [hz2]; omega, by omega, HF2, hrow5, X5, kB5⟩ | ((repeat apply Exists.intro); exact ⟨⟨f, i + 1, S ++ ⟨#[58]⟩ ++ HV, rfl, by go_num, by omega, by rw [hz2]; omega, by omega, HF2, hrow5, X5, kB5⟩, rfl⟩)
                              case measure => simp [intOf]; omega
                    · have hi2 : ¬ (i : Int) < 8 := by omega
                      have HF : S = T := by rw [← HX.out, HS.out, if_pos (by omega)]
                      have X5 := X
                      have kB5 := kB
                      clear HX HS X kB hrow
                      subst HF
                      have kBx := kB5
                      clear kB5
                      go_wp2_with fail
                      refine (KT.out _).mono ?_
                      rintro e w6 ⟨rfl, hb6⟩
                      have X7 := (X5.below hb6).below (bl1 _ (.cells #[.int .u64 (hI z), .int .u64 (lI z)] 24))
                      have kB7 := (keepb hb6 kBx).alloc (keepb hb6 kBx).size (.cells #[.int .u64 (hI z), .int .u64 (lI z)] 24)
                      obtain ⟨n0, n1, -, -, -⟩ := X7
                      clear hb6 kBx X5
                      go_wp2
                      go_ret
                      exact ⟨rfl, kB7⟩
                · have hb1 : (0 : Int) < (B : Int) := by omega
                  obtain ⟨ab, HAB⟩ : ∃ ab : Nat, Hid (A + B = ab) := ⟨_, rfl⟩
                  have hab2 : IntKind.i64.wrap ((A : Int) + (B : Int)) = (ab : Int) := by rw [hab]; have := HAB.out; omega
                  clear hab
                  have h61 : (6 : Int) < (ab : Int) := by have := HAB.out; omega
                  obtain ⟨T, HTT, KT⟩ : ∃ T, Hid (fmG (pcB u E G) (qdB G) false A B 9 0 ⟨#[]⟩ = T) ∧ Hid (∀ w, Calls Try.prog 7 #[.int .i64 128, .string T] w fun e w' => e = .returned (.tuple #[.agg #[.int .u64 (hI z), .int .u64 (lI z)], .int .i64 0]) ∧ Below w.heap.size w w') := ⟨_, rfl, HT.out false (by intro h; cases h)⟩
                  clear HT hi1 hi2 hlt hlt2
                  go_wp2
                  go_loopw [20, 21] (fun p q wz => ∃ (f i : Nat) (S : ByteArray), p = .string S ∧ q = .int .i64 i ∧ i ≤ 8 ∧ S.size ≤ 5 * i ∧ 8 < i + f ∧ Hid (fmG (pcB u E G) (qdB G) false A B f i S = T) ∧ Hid (RowG wz g G) ∧ At wz N z ∧ Below w.heap.size w wz) (fun _ q _ => 8 - (intOf q).toNat)
                  case atStart => exact ⟨9, 0, ⟨#[]⟩, rfl, rfl, by omega, by decide, by omega, HTT, hrow, X, kB⟩
                  case round =>
                    clear hrow kB X HTT
                    obtain ⟨f, i, S, rfl, rfl, hi8, hS, hf, HX, hrow, X, kB⟩ := hrel
                    obtain ⟨f, rfl⟩ : ∃ k, f = k + 1 := ⟨f - 1, by omega⟩
                    have HS : Hid (fmG (pcB u E G) (qdB G) false A B (f + 1) i S = if 8 ≤ i then S else if 0 < B ∧ i = A then fmG (pcB u E G) (qdB G) false A B f (i + B) (S ++ ⟨#[58, 58]⟩) else if false = true ∧ i = 6 then sepS S ++ qdB G else fmG (pcB u E G) (qdB G) false A B f (i + 1) (sepS S ++ pcB u E G i)) := rfl
                    by_cases hlt : i < 8
                    · have hi2 : (i : Int) < 8 := by omega
                      by_cases hgap : i = A
                      · subst hgap
                        have HF : Hid (fmG (pcB u E G) (qdB G) false i B f (i + B) (S ++ ⟨#[58, 58]⟩) = T) := by show _ = _; rw [← HX.out, HS.out, if_neg (by omega), if_pos ⟨by omega, rfl⟩]
                        have hu1 : IntKind.i64.wrap ((i : Int) + (B : Int)) = (i : Int) + (B : Int) := by rw [IntKind.wrap_i64]; omega
                        have hu2 : IntKind.i64.wrap ((i : Int) + (B : Int) - 1) = (i : Int) + (B : Int) - 1 := by rw [IntKind.wrap_i64]; omega
                        have hsz : (S ++ ⟨#[58, 58]⟩ : ByteArray).size = S.size + 2 := by rw [ByteArray.size_append]; rfl
                        clear HS HX
                        go_wp2
                        go_roundw
                        case rel => exact ⟨f, i + B, S ++ ⟨#[58, 58]⟩, rfl, by go_num, by omega, by rw [hsz]; omega, by omega, HF, hrow, X, kB⟩
                        case measure => simp [intOf]; omega
                      · have hgn : ¬ (0 < B ∧ i = A) := fun z => hgap z.2
                        have hne : ((i : Int) == (A : Int)) = false := by simp; omega
                        have HF : Hid (fmG (pcB u E G) (qdB G) false A B f (i + 1) (sepS S ++ pcB u E G i) = T) := by show _ = _; rw [← HX.out, HS.out, if_neg (by omega), if_neg hgn, if_neg (by simp)]
                        have hcell := (hrow.out i hlt).1
                        obtain ⟨v0, v1⟩ := HB.out i
                        obtain ⟨v, hv⟩ := Int.eq_ofNat_of_zero_le v0
                        rw [hv] at hcell
                        have KH := fun w => digits_any u (E + 1) v w (by omega) (by omega) (by omega)
                        have hE1 : ((E + 1 : Nat) : Int) = 1 + (E : Int) := by omega
                        rw [hE1] at KH
                        have hHb : (⟨(digL u (E + 1) v).toArray⟩ : ByteArray).size ≤ 4 := (digL_len u (E + 1) v (by omega) (by omega)).2
                        have HF2 : Hid (fmG (pcB u E G) (qdB G) false A B f (i + 1) (sepS S ++ ⟨(digL u (E + 1) v).toArray⟩) = T) := by
                          have := HF.out
                          unfold pcB at this ⊢
                          rw [hv, Int.toNat_natCast] at this; exact this
                        clear HF HS HX v0 v1 hv hE1 hgn
                        generalize (⟨(digL u (E + 1) v).toArray⟩ : ByteArray) = HV at *
                        by_cases h0 : S.size = 0
                        · have hem : S.toList.isEmpty = true := by rw [empty_is]; simp [h0]
                          have HSep : Hid (sepS S = S) := by show _ = _; unfold sepS; rw [if_pos (Or.inl h0)]
                          rw [HSep.out] at HF2
                          have hz2 : (S ++ HV).size = S.size + HV.size := ByteArray.size_append
                          go_wp2_with fail
                          refine (KH _).mono ?_
                          rintro e w5 ⟨rfl, hb5⟩
                          clear KH hcell
                          have hrow5 : Hid (RowG w5 g G) := hrow.out.below hb5
                          have X5 := X.below hb5
                          have kB5 := keepb hb5 kB
                          clear hb5 hrow kB X
                          go_wp2
                          go_roundw
                          case rel => first | exact ⟨f, i + 1, S ++ HV, rfl, by go_num, by omega, by rw [hz2]; omega, by omega, HF2, hrow5, X5, kB5⟩ | ((repeat apply Exists.intro); exact ⟨⟨f, i + 1, S ++ HV, rfl, by go_num, by omega, by rw [hz2]; omega, by omega, HF2, hrow5, X5, kB5⟩, rfl⟩)
                          case measure => simp [intOf]; omega
                        · have hem : S.toList.isEmpty = false := by rw [empty_is]; simp [h0]
                          obtain ⟨m, HM⟩ : ∃ m, Hid (S.size - 1 = m) := ⟨_, rfl⟩
                          have hmm : (S.size : Int) - 1 = (m : Int) := by have := HM.out; omega
                          have hms : m < S.size := by have := HM.out; omega
                          have hum : IntKind.i64.wrap (m : Int) = (m : Int) := by rw [IntKind.wrap_i64]; omega
                          have hbt := byteAt_in S m hms
                          have HSep : Hid (sepS S = if byteAt S m = 58 then S else S ++ ⟨#[58]⟩) := by
                            show _ = _
                            unfold sepS
                            rw [HM.out]
                            by_cases q : byteAt S m = 58
                            · rw [if_pos (Or.inr q), if_pos q]
                            · rw [if_neg (by simp [h0, q]), if_neg q]
                          generalize byteAt S m = lc at *
                          by_cases hl : lc = 58
                          · subst hl
                            rw [HSep.out, if_pos rfl] at HF2
                            have hz2 : (S ++ HV).size = S.size + HV.size := ByteArray.size_append
                            go_wp2_with fail
                            refine (KH _).mono ?_
                            rintro e w5 ⟨rfl, hb5⟩
                            clear KH hcell
                            have hrow5 : Hid (RowG w5 g G) := hrow.out.below hb5
                            have X5 := X.below hb5
                            have kB5 := keepb hb5 kB
                            clear hb5 hrow kB X
                            go_wp2
                            go_roundw
                            case rel => first | exact ⟨f, i + 1, S ++ HV, rfl, by go_num, by omega, by rw [hz2]; omega, by omega, HF2, hrow5, X5, kB5⟩ | ((repeat apply Exists.intro); exact ⟨⟨f, i + 1, S ++ HV, rfl, by go_num, by omega, by rw [hz2]; omega, by omega, HF2, hrow5, X5, kB5⟩, rfl⟩)
                            case measure => simp [intOf]; omega
                          · rw [HSep.out, if_neg hl] at HF2
                            have hlb : (lc != 58) = true := by simp [hl]
                            have hz1 : (S ++ ⟨#[58]⟩ : ByteArray).size = S.size + 1 := by rw [ByteArray.size_append]; rfl
                            have hz2 : (S ++ ⟨#[58]⟩ ++ HV).size = S.size + 1 + HV.size := by rw [ByteArray.size_append, hz1]
                            go_wp2_with fail
                            refine (KH _).mono ?_
                            rintro e w5 ⟨rfl, hb5⟩
                            clear KH hcell
                            have hrow5 : Hid (RowG w5 g G) := hrow.out.below hb5
                            have X5 := X.below hb5
                            have kB5 := keepb hb5 kB
                            clear hb5 hrow kB X
                            go_wp2
                            go_roundw
                            case rel => first | exact ⟨f, i + 1, S ++ ⟨#[58]⟩ ++ HV, rfl, by go_num, by omega, by rw [hz2]; omega, by omega, HF2, hrow5, X5, kB5⟩ | ((repeat apply Exists.intro); exact ⟨⟨f, i + 1, S ++ ⟨#[58]⟩ ++ HV, rfl, by go_num, by omega, by rw [hz2]; omega, by omega, HF2, hrow5, X5, kB5⟩, rfl⟩)
                            case measure => simp [intOf]; omega
                    · have hi2 : ¬ (i : Int) < 8 := by omega
                      have HF : S = T := by rw [← HX.out, HS.out, if_pos (by omega)]
                      have X5 := X
                      have kB5 := kB
                      clear HX HS X kB hrow
                      subst HF
                      have kBx := kB5
                      clear kB5
                      go_wp2_with fail
                      refine (KT.out _).mono ?_
                      rintro e w6 ⟨rfl, hb6⟩
                      have X7 := (X5.below hb6).below (bl1 _ (.cells #[.int .u64 (hI z), .int .u64 (lI z)] 24))
                      have kB7 := (keepb hb6 kBx).alloc (keepb hb6 kBx).size (.cells #[.int .u64 (hI z), .int .u64 (lI z)] 24)
                      obtain ⟨n0, n1, -, -, -⟩ := X7
                      clear hb6 kBx X5
                      go_wp2
                      go_ret
                      exact ⟨rfl, kB7⟩

theorem addrForms_any (x : BitVec 128) (le : Int) (u : Bool) (fr nn : Int) (qd : Bool) (w : World) :
    Calls Try.prog 6 #[.agg #[.int .u64 (hI x), .int .u64 (lI x)], .int .i64 le, .bool u, .int .i64 fr, .int .i64 nn, .bool qd] w fun e w' => e = .returned (.bool true) ∧ Below w.heap.size w w' := by
  have e0 := Int.emod_nonneg le (b := 4) (by omega)
  have e1 := Int.emod_lt_of_pos le (b := 4) (by omega)
  have a0 := Int.emod_nonneg fr (b := 8) (by omega)
  have a1 := Int.emod_lt_of_pos fr (b := 8) (by omega)
  obtain ⟨E, hE⟩ := Int.eq_ofNat_of_zero_le e0
  obtain ⟨A, hA⟩ := Int.eq_ofNat_of_zero_le a0
  have b0 := Int.emod_nonneg nn (b := 8 - (A : Int) + 1) (by omega)
  have b1 := Int.emod_lt_of_pos nn (b := 8 - (A : Int) + 1) (by omega)
  obtain ⟨B, hB⟩ := Int.eq_ofNat_of_zero_le b0
  refine forms_walk x le fr nn u qd E A B w (by omega) (by omega) (by omega) (fun w => ?_) (fun w => ?_) (fun w => ?_)
  · rw [← hE]; exact within_any le 4 w (by omega) (by omega)
  · rw [← hA]; exact within_any fr 8 w (by omega) (by omega)
  · rw [← hB]; exact within_any nn (8 - (A : Int) + 1) w (by omega) (by omega)
end Go.Proofs.Ytldjeabdoooihaa
