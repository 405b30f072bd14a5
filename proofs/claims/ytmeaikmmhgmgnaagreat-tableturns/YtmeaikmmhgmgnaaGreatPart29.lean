/-
  Part 29 of the proof: 1 texts, one behind the other.
-/
import Derived.Test.YtmeaikmmhgmgnaaGreatPart28
import Derived.Test.YtmeaikmmhgmgnaaGreatPart7
import Derived.Test.YtmeaikmmhgmgnaaGreatPart10

namespace Go.Proofs.YtmeaikmmhgmgnaaGreat
open Go.RowKit
set_option linter.unusedSimpArgs false
set_option linter.unusedVariables false
def bL (l : List UInt8) : ByteArray := ⟨l.toArray⟩
theorem bL_size (l : List UInt8) : (bL l).size = l.length := rfl
theorem bL_at (l : List UInt8) (k : Nat) : byteAt (bL l) k = ((l.getD k 0).toNat : Int) := by
  unfold byteAt
  by_cases h : k < l.length
  · rw [dif_pos (by rw [bL_size]; exact h), List.getD_eq_getElem?_getD, List.getElem?_eq_getElem h]
    rfl
  · rw [dif_neg (by rw [bL_size]; exact h), List.getD_eq_getElem?_getD, List.getElem?_eq_none (by omega)]
    rfl

theorem byteAt_lst (s : ByteArray) (k : Nat) : byteAt s k = ((s.data.toList.getD k 0).toNat : Int) := bL_at s.data.toList k
theorem index_at : ∀ (l : List UInt8) (k : Nat), k < l.length → (∀ j, j < k → ¬ l.getD j 0 = 47) → l.getD k 0 = 47 → Lib.indexByte l 47 = (k : Int) := by
  intro l
  induction l with
  | nil => intro k h; simp at h
  | cons b l ih =>
    intro k hk hj hc
    cases k with
    | zero =>
      have : b = 47 := hc
      subst this
      simp [Lib.indexByte]
    | succ k =>
      have hb : ¬ (b == 47) = true := by simp; exact hj 0 (by omega)
      have := ih k (by simpa using hk) (fun j h => by have := hj (j + 1) (by omega); simpa using this) (by simpa using hc)
      show (if (b == 47) = true then (0 : Int) else if (Lib.indexByte l 47 == -1) = true then -1 else Lib.indexByte l 47 + 1) = _
      rw [if_neg hb, this, if_neg (by simp)]
      simp
theorem index_none : ∀ (l : List UInt8), (∀ j, j < l.length → ¬ l.getD j 0 = 47) → Lib.indexByte l 47 = -1 := by
  intro l
  induction l with
  | nil => intro _; rfl
  | cons b l ih =>
    intro hj
    have hb : ¬ (b == 47) = true := by simp; exact hj 0 (by simp)
    have := ih (fun j h => by have := hj (j + 1) (by simp; omega); simpa using this)
    show (if (b == 47) = true then (0 : Int) else if (Lib.indexByte l 47 == -1) = true then -1 else Lib.indexByte l 47 + 1) = _
    rw [if_neg hb, this, if_pos (by simp)]
theorem u8_47 (c : UInt8) (h : ¬ (c.toNat : Int) = 47) : ¬ c = 47 := by intro e; subst e; exact h rfl
theorem u8_47' (c : UInt8) (h : (c.toNat : Int) = 47) : c = 47 := UInt8.toNat_inj.mp (by show c.toNat = 47; omega)
theorem ixS_at (s : ByteArray) (k : Nat) (hk : k < s.size) (hj : ∀ j, j < k → ¬ byteAt s j = 47) (hc : byteAt s k = 47) : ixS s = (k : Int) :=
  index_at s.data.toList k hk (fun j h => u8_47 _ (by have := hj j h; rwa [byteAt_lst] at this)) (u8_47' _ (by rwa [byteAt_lst] at hc))
theorem ixS_none (s : ByteArray) (hj : ∀ j, j < s.size → ¬ byteAt s j = 47) : ixS s = -1 :=
  index_none s.data.toList (fun j h => u8_47 _ (by have := hj j h; rwa [byteAt_lst] at this))
theorem apE_ways (F : Int) (s : ByteArray) (hf : fam F = true) : apE F s = 0 ∨ apE F s = 12 := by
  unfold apE
  rcases fam_ways F hf with rfl | rfl
  · rw [if_pos rfl]; split <;> simp
  · rw [if_neg (by decide), if_pos rfl]; split <;> simp
theorem apE_nofam (F : Int) (s : ByteArray) (hf : fam F = false) : apE F s = 11 := by
  obtain ⟨h1, h2⟩ := fam_no F hf
  unfold apE
  rw [if_neg h1, if_neg h2]
set_option maxHeartbeats 8000000 in
set_option maxRecDepth 20000 in
theorem rpparse_any (F : Int) (s : ByteArray) (w : World) (hs : s.size ≤ maxLen) :
    Calls Tryz.prog 51 #[.int .i64 F, .string s] w fun e w' => e = .returned (.tuple #[.agg #[.int .u64 (hI (ppV F s)), .int .u64 (lI (ppV F s)), .int .i64 (ppN F s)], .int .i64 (ppE F s)]) ∧ Below w.heap.size w w' := by
  have hs' := hs
  unfold maxLen at hs
  have KF := fun w => isFamily_any F w
  cases hf : fam F
  · rw [hf] at KF
    have hE : ppE F s = 11 := by unfold ppE; rw [apE_nofam F _ hf, if_neg (by decide)]
    have hV : ppV F s = 0#128 := by unfold ppV; rw [hE, if_neg (by decide)]
    have hN : ppN F s = 0 := by unfold ppN; rw [hE, if_neg (by decide)]
    rw [hE, hV, hN, hI_zero, lI_zero]
    clear hE hV hN hf
    go_enter Tryz.func51, Tryz.ntmps51
    go_wp2_with fail
    refine (KF _).mono ?_
    rintro e w1 ⟨rfl, rfl⟩
    go_wp2
    exact bodyPost_ret (v := .tuple #[.agg #[.int .u64 0, .int .u64 0, .int .i64 0], .int .i64 11]) (by simp [results, Tryz.results51, go_sem]) rfl ⟨rfl, bl1 _ _⟩
  · rw [hf] at KF
    go_enter Tryz.func51, Tryz.ntmps51
    go_wp2_with fail
    refine (KF _).mono ?_
    rintro e w1 ⟨rfl, rfl⟩
    clear KF
    have Z0 := atp_new w w.heap.size 0#128 0 37 rfl
    have kB0 := bl1 w (.cells #[.int .u64 0, .int .u64 0, .int .i64 0] 37)
    go_wp2
    obtain ⟨W, HW⟩ : ∃ W, Hid ((w.alloc (.cells #[.int .u64 0, .int .u64 0, .int .i64 0] 37)) = W) := ⟨_, rfl⟩
    have Z : AtP W w.heap.size 0#128 0 := by rw [← HW.out]; exact Z0
    have kB : Below w.heap.size w W := by rw [← HW.out]; exact kB0
    rw [HW.out]
    clear Z0 kB0
    go_loopw [6] (fun i wr => ∃ k : Nat, i = .int .i64 (k : Int) ∧ k ≤ s.size ∧ Hid (∀ j, j < k → ¬ byteAt s j = 47) ∧ wr = W) (fun i _ => s.size - (intOf i).toNat)
    case atStart => exact ⟨0, rfl, by omega, fun j h => by omega, rfl⟩
    case round =>
      obtain ⟨k, rfl, hk, HJ, rfl⟩ := hrel
      by_cases hlt : k < s.size
      · have hbt := byteAt_in s k hlt
        have bd := byteAt_bd s k
        have hk2 : (k : Int) < (s.size : Int) := by omega
        by_cases hc : byteAt s k = 47
        · have hix := ixS_at s k hlt HJ.out hc
          have h1 : headS s = s.extract 0 k := by unfold headS; rw [hix, if_neg (by omega)]; rfl
          have h2 : tailS s = s.extract (k + 1) s.size := by unfold tailS; rw [hix, if_neg (by omega)]; rfl
          have hcb : (byteAt s k != 47) = false := by simp [hc]
          generalize byteAt s k = c at *
          have hk0 : (0 : Int) ≤ (k : Int) := by omega
          have hk1 : (k : Int) ≤ (s.size : Int) := by omega
          have hk3 : (k : Int) + 1 ≤ (s.size : Int) := by omega
          have hk4 : (0 : Int) ≤ (k : Int) + 1 := by omega
          have ht : ((k : Int) + 1).toNat = k + 1 := by omega
          have hu : IntKind.i64.wrap ((k : Int) + 1) = (k : Int) + 1 := by rw [IntKind.wrap_i64]; omega
          have KA := fun w => rparse2_any F (s.extract 0 k) w (Nat.le_trans (ext_le _ _ _) hs')
          have ev : rpV F (s.extract 0 k) = apV F (headS s) := by rw [h1]; exact (parse_eq F (s.extract 0 k)).1.symm
          have ee : rpE F (s.extract 0 k) = apE F (headS s) := by rw [h1]; exact (parse_eq F (s.extract 0 k)).2.symm
          rw [ev, ee] at KA
          clear ev ee
          have hts : (s.extract (k + 1) s.size).size ≤ 9223372036854775807 := Nat.le_trans (ext_le _ _ _) hs
          have HT : Hid (tailS s = s.extract (k + 1) s.size) := h2
          have HH : Hid (headS s = s.extract 0 k) := h1
          have hge : ¬ (s.size : Int) ≤ (k : Int) := by omega
          clear hc HJ bd h1 h2 hix
          have hZero : ∀ e, ¬ e = 0 → ppE F s = e → Hid (ppV F s = 0#128 ∧ ppN F s = 0 ∧ ppE F s = e) := fun e he hE => by
            refine ⟨?_, ?_, hE⟩
            · unfold ppV; rw [hE, if_neg he]
            · unfold ppN; rw [hE, if_neg he]
          rcases apE_ways F (headS s) hf with e0 | e0
          · rw [e0] at KA
            have hPE : ppE F s = if lenB (tailS s) = true then checkE F (apV F (headS s)) (lenV (tailS s)) else 12 := by unfold ppE; rw [if_pos e0]
            have HPV : Hid (ppV F s = if ppE F s = 0 then apV F (headS s) else 0#128) := rfl
            have HPN : Hid (ppN F s = if ppE F s = 0 then lenV (tailS s) else 0) := rfl
            generalize apV F (headS s) = x at *
            have HPE : Hid (ppE F s = if lenB (tailS s) = true then checkE F x (lenV (tailS s)) else 12) := hPE
            have Hno : Hid (lenO (tailS s) = none → Hid (ppV F s = 0#128 ∧ ppN F s = 0 ∧ ppE F s = 12)) := fun hn => hZero 12 (by decide) (by
              rw [hPE, if_neg]
              unfold lenB; rw [hn]; decide)
            clear hPE e0 hZero
            obtain ⟨t, HTT⟩ : ∃ t, Hid (s.extract (k + 1) s.size = t) := ⟨_, rfl⟩
            rw [HT.out, HTT.out] at HPE HPN Hno
            rw [HTT.out] at hts
            have hTT := HTT.out
            go_wp2_with fail
            refine (KA _).mono ?_
            rintro e w2 ⟨rfl, hb⟩
            have hA := bl1 w2 (.cells #[.int .u64 (hI x), .int .u64 (lI x)] 35)
            have Z2 := (Z.below hb).below hA
            have X2 := at_new w2 w2.heap.size x 35 rfl
            have kB2 := keepb hA (keepb hb kB)
            clear hb hA KA
            obtain ⟨z0, z1, z2, z3, z4, z5⟩ := id Z2
            by_cases hz : t.size = 0
            · have hz1 : (t.size : Int) < 1 := by omega
              have HV := Hno.out (by unfold lenO; rw [if_pos (Or.inl hz)])
              clear Hno HPE HPN HPV hz
              go_wp2
              exact bodyPost_ret (v := .tuple #[.agg #[.int .u64 0, .int .u64 0, .int .i64 0], .int .i64 12]) (by simp [results, Tryz.results51, go_sem, *]) rfl ⟨by rw [HV.out.1, HV.out.2.1, HV.out.2.2, hI_zero, lI_zero], bset3 kB2 (Nat.le_refl _) _ _ _⟩
            have hz1 : ¬ (t.size : Int) < 1 := by omega
            by_cases h3 : (3 : Int) < (t.size : Int)
            · have HV := Hno.out (by unfold lenO; rw [if_pos (Or.inr (Or.inl (by omega)))])
              clear Hno HPE HPN HPV hz
              go_wp2
              exact bodyPost_ret (v := .tuple #[.agg #[.int .u64 0, .int .u64 0, .int .i64 0], .int .i64 12]) (by simp [results, Tryz.results51, go_sem, *]) rfl ⟨by rw [HV.out.1, HV.out.2.1, HV.out.2.2, hI_zero, lI_zero], bset3 kB2 (Nat.le_refl _) _ _ _⟩
            have hpos : 0 < t.size := by omega
            have hb0 := byteAt_in t 0 hpos
            by_cases h0 : byteAt t 0 = 48 ∧ 1 < t.size
            · have HV := Hno.out (by unfold lenO; rw [if_pos (Or.inr (Or.inr h0))])
              obtain ⟨q1, q2⟩ := h0
              have q2' : (1 : Int) < (t.size : Int) := by omega
              have qb : (byteAt t 0 == 48) = true := by simp [q1]
              generalize byteAt t 0 = c at *
              clear q1 Hno HPE HPN HPV hz
              go_wp2
              exact bodyPost_ret (v := .tuple #[.agg #[.int .u64 0, .int .u64 0, .int .i64 0], .int .i64 12]) (by simp [results, Tryz.results51, go_sem, *]) rfl ⟨by rw [HV.out.1, HV.out.2.1, HV.out.2.2, hI_zero, lI_zero], bset3 kB2 (Nat.le_refl _) _ _ _⟩
            have HO : Hid (lenO t = lenR t t.size 0 0) := by
              show _ = _
              unfold lenO; rw [if_neg]
              rintro (q | q | q)
              · exact hz q
              · omega
              · exact h0 q
            have hq : (¬ (1 : Int) < (t.size : Int)) ∨ ((1 : Int) < (t.size : Int) ∧ (byteAt t 0 == 48) = false) := by
              by_cases q : (1 : Int) < (t.size : Int)
              · right; refine ⟨q, ?_⟩
                have : ¬ byteAt t 0 = 48 := fun e => h0 ⟨e, by omega⟩
                simp [this]
              · left; exact q
            have ht3 : (t.size : Int) ≤ 3 := by omega
            clear h0 hz
            have go2 : True := trivial
            rcases hq with qb | ⟨qb, q2⟩
            all_goals
              go_wp2
              obtain ⟨W2, HW2⟩ : ∃ W2, Hid ((w2.alloc (.cells #[.int .u64 (hI x), .int .u64 (lI x)] 35)) = W2) := ⟨_, rfl⟩
              rw [HW2.out] at Z2 X2 kB2 z0 z1 z2 z3 z4 z5 ⊢
              clear hb0
              go_loopw [10, 11] (fun a b wr2 => ∃ (j : Nat) (n : Int), a = .int .i64 n ∧ b = .int .i64 j ∧ j ≤ t.size ∧ 0 ≤ n ∧ n ≤ 999 ∧ Hid ((j = 0 ∧ n = 0) ∨ (j = 1 ∧ n ≤ 9) ∨ (j = 2 ∧ n ≤ 99) ∨ (j = 3 ∧ n ≤ 999)) ∧ Hid (lenR t (t.size - j) j n = lenR t t.size 0 0) ∧ wr2 = W2) (fun _ b _ => t.size - (intOf b).toNat)
              case atStart => exact ⟨0, 0, rfl, rfl, by omega, by omega, by omega, Or.inl ⟨rfl, rfl⟩, rfl, rfl⟩
              case round =>
                obtain ⟨j, n, rfl, rfl, hj, g0, g1, HB, HR, rfl⟩ := hrel
                clear qb
                by_cases hjt : j < t.size
                · have hbt := byteAt_in t j hjt
                  have bd := byteAt_bd t j
                  have HU : Hid (t.size - j = (t.size - (j + 1)) + 1) := by show _ = _; omega
                  have HS : Hid (∀ f, lenR t (f + 1) j n = if byteAt t j < 48 ∨ 57 < byteAt t j then none else lenR t f (j + 1) (10 * n + (byteAt t j - 48))) := fun f => rfl
                  generalize byteAt t j = c at *
                  have hj2 : (j : Int) < (t.size : Int) := by omega
                  by_cases d0 : c < 48
                  · have HV := Hno.out (by rw [HO.out, ← HR.out, HU.out, HS.out, if_pos (Or.inl d0)])
                    clear HS HU HR HO Hno HPE HPN HPV
                    go_wp2
                    exact bodyPost_ret (v := .tuple #[.agg #[.int .u64 0, .int .u64 0, .int .i64 0], .int .i64 12]) (by simp [results, Tryz.results51, go_sem, *]) rfl ⟨by rw [HV.out.1, HV.out.2.1, HV.out.2.2, hI_zero, lI_zero], bset3 kB2 (Nat.le_refl _) _ _ _⟩
                  by_cases d1 : 57 < c
                  · have HV := Hno.out (by rw [HO.out, ← HR.out, HU.out, HS.out, if_pos (Or.inr d1)])
                    clear HS HU HR HO Hno HPE HPN HPV
                    go_wp2
                    exact bodyPost_ret (v := .tuple #[.agg #[.int .u64 0, .int .u64 0, .int .i64 0], .int .i64 12]) (by simp [results, Tryz.results51, go_sem, *]) rfl ⟨by rw [HV.out.1, HV.out.2.1, HV.out.2.2, hI_zero, lI_zero], bset3 kB2 (Nat.le_refl _) _ _ _⟩
                  · have HF : Hid (lenR t (t.size - (j + 1)) (j + 1) (10 * n + (c - 48)) = lenR t t.size 0 0) := by
                      show _ = _
                      rw [← HR.out, HU.out, HS.out, if_neg (by omega)]
                    have hn : 10 * n + (c - 48) ≤ 999 ∧ 0 ≤ 10 * n + (c - 48) := by
                      have := HB.out
                      omega
                    have HB2 : Hid ((j + 1 = 0 ∧ 10 * n + (c - 48) = 0) ∨ (j + 1 = 1 ∧ 10 * n + (c - 48) ≤ 9) ∨ (j + 1 = 2 ∧ 10 * n + (c - 48) ≤ 99) ∨ (j + 1 = 3 ∧ 10 * n + (c - 48) ≤ 999)) := by
                      have := HB.out
                      show _ ∨ _
                      omega
                    have u1 : IntKind.u8.wrap (c - 48) = c - 48 := by simp [IntKind.wrap, IntKind.bits, IntKind.signed]; omega
                    obtain ⟨hn1, hn2⟩ := hn
                    clear HS HU HR HO HB Hno HPE HPN HPV z0 z1 z2 z3 z4 z5 Z2 X2
                    go_wp2
                    go_roundw
                    case rel => exact ⟨j + 1, 10 * n + (c - 48), rfl, by go_num, by omega, hn2, hn1, HB2, HF, trivial⟩
                    case measure => simp [intOf]; omega
                · have hj2 : ¬ (j : Int) < (t.size : Int) := by omega
                  have hLO : lenO t = some n := by
                    have e : t.size - j = 0 := by omega
                    rw [HO.out, ← HR.out, e]; rfl
                  have hlB : lenB t = true := by unfold lenB; rw [hLO]; rfl
                  have hlV : lenV t = n := by unfold lenV; rw [hLO]; rfl
                  have KC := fun w => rcheck_any F x n w
                  rw [hlB, if_pos rfl, hlV] at HPE
                  rw [hlV] at HPN
                  clear hLO hlB hlV HO HR HB Hno
                  generalize checkE F x n = c at *
                  obtain ⟨x0, x1, -, -, -⟩ := id X2
                  go_wp2_with fail
                  refine (KC _).mono ?_
                  rintro e w4 ⟨rfl, hb⟩
                  have hA := bl1 wr (.cells #[.int .u64 (hI x), .int .u64 (lI x), .int .i64 n] 37)
                  have C4 := (atp_new wr wr.heap.size x n 37 rfl).below hb
                  have Z4 := (Z2.below hA).below hb
                  have kB4 := keepb hb (keepb hA kB2)
                  clear z0 z1 z2 z3 z4 z5 x0 x1 hb hA KC Z2 X2
                  obtain ⟨z0, z1, z2, z3, z4, z5⟩ := Z4
                  obtain ⟨c0, c1, c2, -, -, -⟩ := C4
                  by_cases hc0 : c = 0
                  · subst hc0
                    have HV : Hid (ppV F s = x ∧ ppN F s = n ∧ ppE F s = 0) := by
                      refine ⟨?_, ?_, HPE.out⟩
                      · rw [HPV.out, HPE.out, if_pos rfl]
                      · rw [HPN.out, HPE.out, if_pos rfl]
                    clear HPE HPN HPV
                    go_wp2
                    exact bodyPost_ret (v := .tuple #[.agg #[.int .u64 (hI x), .int .u64 (lI x), .int .i64 n], .int .i64 0]) (by simp [results, Tryz.results51, go_sem, *]) rfl ⟨by rw [HV.out.1, HV.out.2.1, HV.out.2.2], bset3 kB4 (Nat.le_refl _) _ _ _⟩
                  · have hcb : (c != 0) = true := by simp [hc0]
                    have HV : Hid (ppV F s = 0#128 ∧ ppN F s = 0 ∧ ppE F s = c) := by
                      refine ⟨?_, ?_, HPE.out⟩
                      · rw [HPV.out, HPE.out, if_neg hc0]
                      · rw [HPN.out, HPE.out, if_neg hc0]
                    clear HPE HPN HPV
                    go_wp2
                    exact bodyPost_ret (v := .tuple #[.agg #[.int .u64 0, .int .u64 0, .int .i64 0], .int .i64 c]) (by simp [results, Tryz.results51, go_sem, *]) rfl ⟨by rw [HV.out.1, HV.out.2.1, HV.out.2.2, hI_zero, lI_zero], bset3 kB4 (Nat.le_refl _) _ _ _⟩
          · rw [e0] at KA
            have HV := hZero 12 (by decide) (by unfold ppE; rw [e0, if_neg (by decide)])
            generalize apV F (headS s) = x at *
            clear hZero e0
            go_wp2_with fail
            refine (KA _).mono ?_
            rintro e w2 ⟨rfl, hb⟩
            have hA := bl1 w2 (.cells #[.int .u64 (hI x), .int .u64 (lI x)] 35)
            have Z2 := (Z.below hb).below hA
            have kB2 := keepb hA (keepb hb kB)
            clear hb hA KA
            obtain ⟨z0, z1, z2, z3, z4, z5⟩ := id Z2
            go_wp2
            exact bodyPost_ret (v := .tuple #[.agg #[.int .u64 0, .int .u64 0, .int .i64 0], .int .i64 12]) (by simp [results, Tryz.results51, go_sem, *]) rfl ⟨by rw [HV.out.1, HV.out.2.1, HV.out.2.2, hI_zero, lI_zero], bset3 kB2 (Nat.le_refl _) _ _ _⟩
        · have hcb : (byteAt s k != 47) = true := by simp [hc]
          have HJ2 : Hid (∀ j, j < k + 1 → ¬ byteAt s j = 47) := fun j h => by
            by_cases e : j = k
            · rw [e]; exact hc
            · exact HJ.out j (by omega)
          generalize byteAt s k = c at *
          clear hc HJ
          go_wp2
          go_roundw
          case rel => exact ⟨k + 1, by go_num, by omega, HJ2, trivial⟩
          case measure => simp [intOf]; omega
      · have hk2 : ¬ (k : Int) < (s.size : Int) := by omega
        have hke : k = s.size := by omega
        have hix := ixS_none s (fun j h => HJ.out j (by omega))
        have h2 : tailS s = ⟨#[]⟩ := by unfold tailS; rw [hix, if_pos rfl]
        have hE : ppE F s = 12 := by
          unfold ppE
          rcases apE_ways F (headS s) hf with e | e
          · rw [e, if_pos rfl, h2, if_neg (by decide)]
          · rw [e, if_neg (by decide)]
        have HV : Hid (ppV F s = 0#128 ∧ ppN F s = 0 ∧ ppE F s = 12) := by
          refine ⟨?_, ?_, hE⟩
          · unfold ppV; rw [hE, if_neg (by decide)]
          · unfold ppN; rw [hE, if_neg (by decide)]
        have hge : (s.size : Int) ≤ (k : Int) := by omega
        obtain ⟨z0, z1, z2, z3, z4, z5⟩ := Z
        clear hE h2 hix HJ hke
        go_wp2
        exact bodyPost_ret (v := .tuple #[.agg #[.int .u64 0, .int .u64 0, .int .i64 0], .int .i64 12]) (by simp [results, Tryz.results51, go_sem, *]) rfl ⟨by rw [HV.out.1, HV.out.2.1, HV.out.2.2, hI_zero, lI_zero], bset3 kB (Nat.le_refl _) _ _ _⟩
end Go.Proofs.YtmeaikmmhgmgnaaGreat
