/-
  Part 3 of the proof: 3 texts, one behind the other.
-/
import Derived.Test.YthbdmdafldombabDoorPart2
import Derived.Lib.SlBytesConst
import Derived.Deep.Slices
import Derived.Carry
import Derived.SizedLaws
import Derived.ProofKit
import Derived.Lib.SmallJoins
namespace Go.Proofs.YthbdmdafldombabDoor
open Go.RowKit
set_option linter.unusedSimpArgs false
set_option linter.unusedVariables false

theorem known_sum : crS [49, 50, 51, 52, 53, 54, 55, 56, 57] = 3808858755#32 := by decide +kernel
theorem known_U : fdU [(5 : Int), 5, 7, 5] 4 = [2952790016#32] := by decide +kernel
theorem known_R : fdR [(5 : Int), 5, 7, 5] 4 = [5, 7, 5] := by decide +kernel
theorem lit_rwx {α : Type} {f : α → Value} (w : World) (cs : Array Value) (T : TypeId) (fr : Nat × Nat) (l : List α) (h : cs.toList = l.map f) : RwX f (w.alloc (.cells cs T fr)) (.slice (some ⟨w.heap.size, 0, none⟩) l.length l.length) l := by
  refine ⟨_, _, rfl, Nat.le_refl _, .inr ⟨w.heap.size, 0, rfl, fun j x hj => ?_⟩⟩
  have e : (w.alloc (.cells cs T fr)).heap[w.heap.size]? = some (.cells cs T fr) := by
    show (w.heap.push _)[w.heap.size]? = _
    simp
  have hc : cs[j]? = some (f x) := by
    rw [← Array.getElem?_toList, h, List.getElem?_map, hj]; rfl
  rw [Nat.zero_add]
  rw [cell_of_row _ _ _ _ _ _ e]; exact hc
set_option maxRecDepth 100000 in
set_option maxHeartbeats 16000000 in
theorem known13 (w : World) (hT : Hf w) :
    Calls Tryd.prog 9 #[] w fun e w' => e = .returned (.bool true) ∧ Below w.heap.size w w' := by
  have HT := hid13 hT
  clear hT
  have q1 := bl1 w (.cells #[.int .i64 5, .int .i64 5, .int .i64 7, .int .i64 5] 3)
  have HB1 := hid13 q1
  have HV1 := hid13 (lit_rwx (f := cI) w #[.int .i64 5, .int .i64 5, .int .i64 7, .int .i64 5] 3 (0, 0) [5, 5, 7, 5] rfl)
  clear q1
  go_enter Tryd.func9, Tryd.ntmps9
  go_wp2_with fail
  refine (foldI_any _ [5, 5, 7, 5] _ HV1.out (by decide)).mono ?_
  rintro e w1 ⟨vf, rfl, hF⟩
  have hB : Below w.heap.size w w1 := keepb hF.b HB1.out
  rw [show ([5, 5, 7, 5] : List Int).length = 4 from rfl, known_U, known_R] at hF
  have hs1 : (w.alloc (.cells #[.int .i64 5, .int .i64 5, .int .i64 7, .int .i64 5] 3)).heap.size = w.heap.size + 1 := by simp
  rw [hs1, show (([5, 5, 7, 5] : List Int).length + 31) / 32 = 1 from rfl]
  have hm0 : w1.cell? ⟨w.heap.size + 1, 0, none⟩ = some (.int .u32 2952790016) := by
    have := (hF.cell 0 (by decide)).1
    rw [show ([2952790016#32] : List (BitVec 32)).getD (0 / 32) 0#32 = 2952790016#32 from rfl, uI_of 2952790016 (by decide)] at this
    rw [hs1] at this
    exact this
  obtain ⟨gf, cf, rfl, hr1⟩ : ∃ gf cf, vf = .slice (some ⟨gf, 0, none⟩) 3 cf ∧ w1.cell? ⟨gf, 1, none⟩ = some (.int .i64 7) := by
    have hr := hF.r
    rcases hr.2 with ⟨-, h⟩ | ⟨g, cap, cur, rfl, -⟩
    · cases h
    · exact ⟨g, cap, rfl, by rw [hr.cellAt 1 (by decide)]; rfl⟩
  have HT1 := hid13 (HT.out.below hB)
  have HB := hid13 hB
  clear hF hB HB1 HV1 hs1 HT
  have q2 := bl1 w1 (.cells #[.int .u8 49, .int .u8 50, .int .u8 51, .int .u8 52] 5 (4, 5))
  have r2 := lit_rwx (f := cB) w1 #[.int .u8 49, .int .u8 50, .int .u8 51, .int .u8 52] 5 (4, 5) [49, 50, 51, 52] rfl
  obtain ⟨w2, hw2⟩ : ∃ w2, w2 = w1.alloc (.cells #[.int .u8 49, .int .u8 50, .int .u8 51, .int .u8 52] 5 (4, 5)) := ⟨_, rfl⟩
  have e2 : w2.heap.size = w1.heap.size + 1 := by rw [hw2]; simp
  rw [← hw2] at q2 r2
  have q3 := bl1 w2 (.cells #[.int .u8 53, .int .u8 54, .int .u8 55, .int .u8 56, .int .u8 57] 5 (5, 6))
  have r3 := lit_rwx (f := cB) w2 #[.int .u8 53, .int .u8 54, .int .u8 55, .int .u8 56, .int .u8 57] 5 (5, 6) [53, 54, 55, 56, 57] rfl
  obtain ⟨w3, hw3⟩ : ∃ w3, w3 = w2.alloc (.cells #[.int .u8 53, .int .u8 54, .int .u8 55, .int .u8 56, .int .u8 57] 5 (5, 6)) := ⟨_, rfl⟩
  have e3 : w3.heap.size = w1.heap.size + 2 := by rw [hw3, ← Nat.add_right_comm w1.heap.size 1 1, ← e2]; simp
  rw [← hw3] at q3 r3
  rw [e2] at r3
  have q4 := bl1 w3 (.cells #[.slice (some ⟨w1.heap.size, 0, none⟩) 4 4, .slice (some ⟨w1.heap.size + 1, 0, none⟩) 5 5] 22)
  have r4 := lit_rwx (f := fun p : Value × List Nat => p.1) w3 #[.slice (some ⟨w1.heap.size, 0, none⟩) 4 4, .slice (some ⟨w1.heap.size + 1, 0, none⟩) 5 5] 22 (0, 0) [(.slice (some ⟨w1.heap.size, 0, none⟩) 4 4, [49, 50, 51, 52]), (.slice (some ⟨w1.heap.size + 1, 0, none⟩) 5 5, [53, 54, 55, 56, 57])] rfl
  rw [e3] at r4
  have HS := sum_any _ _ _ r4 (by
    intro p hp
    simp only [List.mem_cons, List.mem_nil_iff, or_false] at hp
    rcases hp with rfl | rfl
    · exact ⟨(r2.below q3).below q4, by show 4 ≤ _; decide, by show ∀ b ∈ [49, 50, 51, 52], b < 256; decide⟩
    · exact ⟨r3.below q4, by show 5 ≤ _; decide, by show ∀ b ∈ [53, 54, 55, 56, 57], b < 256; decide⟩) (by show 2 ≤ _; decide) (((HT1.out.below q2).below q3).below q4)
  have HB4 := hid13 (keepb q4 (keepb q3 (keepb q2 HB.out)))
  have hsum : uI (crS (([(.slice (some ⟨w1.heap.size, 0, none⟩) 4 4, [49, 50, 51, 52]), (.slice (some ⟨w1.heap.size + 1, 0, none⟩) 5 5, [53, 54, 55, 56, 57])] : List (Value × List Nat)).map (·.2)).flatten) = 3808858755 := by
    show uI (crS [49, 50, 51, 52, 53, 54, 55, 56, 57]) = 3808858755
    rw [known_sum, uI_of 3808858755 (by decide)]
    rfl
  rw [hsum] at HS
  have hm4 := keepc q4 (keepc q3 (keepc q2 hm0))
  have hr4 := keepc q4 (keepc q3 (keepc q2 hr1))
  rw [hw3, hw2] at HS HB4 hm4 hr4
  have HS' := hid13 HS
  have HM4 := hid13 hm4
  have HR4 := hid13 hr4
  clear q2 r2 q3 r3 q4 r4 HS hsum hm0 hr1 e2 e3 hw2 hw3 w2 w3 HB HT1 hm4 hr4
  have kc := fun (w : World) (C : Array Value) (n c : Nat) => Lib.run_convert_bytes_const (P := Tryd.prog) w 22 5 C n c Tryd.underlying22 Tryd.underlying5
  have kc2 := kc (w1.alloc (.cells #[.int .u8 49, .int .u8 50, .int .u8 51, .int .u8 52] 5 (4, 5))) #[.int .u8 53, .int .u8 54, .int .u8 55, .int .u8 56, .int .u8 57] 5 5
  rw [show (w1.alloc (.cells #[.int .u8 49, .int .u8 50, .int .u8 51, .int .u8 52] 5 (4, 5))).heap.size = w1.heap.size + 1 by simp] at kc2
  go_wp2_with fail
  refine HS'.out.mono ?_
  rintro e w5 ⟨rfl, hw5⟩
  rw [← hw5] at HM4 HR4 HB4
  have hm5 := HM4.out
  have hr5 := HR4.out
  clear HS' hw5 HM4 HR4 kc kc2
  go_wp2
  go_ret
  exact ⟨rfl, HB4.out⟩
end Go.Proofs.YthbdmdafldombabDoor
namespace Go.Proofs.YthbdmdafldombabDoor
open Go.RowKit
set_option linter.unusedSimpArgs false
set_option linter.unusedVariables false

set_option maxRecDepth 100000 in
theorem within13 (a n : Int) (h0 : 1 ≤ n) (h1 : n ≤ 1000000000000000) (ha0 : -9223372036854775808 ≤ a) (ha1 : a ≤ 9223372036854775807) (w : World) :
    Calls Tryd.prog 11 #[.int .i64 a, .int .i64 n] w fun e w' => (∃ r : Int, e = .returned (.int .i64 r) ∧ 0 ≤ r ∧ r < n) ∧ w' = w := by
  have hn0 : ¬ n = 0 := by omega
  have hb1 : -n < a.tmod n := by
    have := Int.lt_tmod_of_pos a (show 0 < n by omega)
    exact this
  have hb2 : a.tmod n < n := Int.tmod_lt_of_pos a (by omega)
  obtain ⟨r, hr⟩ : ∃ r, a.tmod n = r := ⟨_, rfl⟩
  have hw : IntKind.i64.wrap (a.tmod n) = r := by rw [hr] at hb1 hb2 ⊢; rw [IntKind.wrap_i64]; omega
  have hw2 : IntKind.i64.wrap r = r := by rw [hr] at hb1 hb2; rw [IntKind.wrap_i64]; omega
  rw [hr] at hb1 hb2
  by_cases c : r < 0
  · have hs : IntKind.i64.wrap (r + n) = r + n := by rw [IntKind.wrap_i64]; omega
    go_enter Tryd.func11, Tryd.ntmps11
    go_wp2
    go_ret
    exact ⟨⟨r + n, rfl, by omega, by omega⟩, rfl⟩
  · go_enter Tryd.func11, Tryd.ntmps11
    go_wp2
    go_ret
    exact ⟨⟨r, rfl, by omega, by omega⟩, rfl⟩
theorem bitI2 (c : BitVec 32) (i : Nat) : bits .and .u32 (uI c / 2 ^ i) 1 = if c.getLsbD i then 1 else 0 := by
  rw [shr32, odd32, BitVec.getLsbD_ushiftRight, Nat.add_zero]
theorem selR_at {U : List (BitVec 32)} {p : Nat} {e : Ending} (h : SelR U ((cnt U p : Nat) : Int) e) (hp : plc U p = true) (hl : p < 32 * U.length) : e = .returned (.tuple #[.int .i64 (p : Int), .int .i64 0]) := by
  rcases h with ⟨-, -, q, h, hq⟩ | ⟨n, -⟩
  · have := sel_one U q p hq.2.1 hp (by rw [hq.2.2, Int.toNat_natCast])
    rw [h, this]
  · refine absurd ⟨by omega, ?_⟩ n
    have h2 := cnt_mono U (p + 1) (32 * U.length) (by omega)
    simp only [cnt, hp, Bool.toNat_true] at h2
    rw [cnt_words] at h2
    omega
theorem selR_out {U : List (BitVec 32)} {k : Int} {e : Ending} (h : SelR U k e) (hk : k < 0 ∨ (sumW U U.length : Int) ≤ k) : e = .returned (.tuple #[.int .i64 0, .int .i64 2]) := by
  rcases h with ⟨a, b, -⟩ | ⟨-, h⟩
  · omega
  · exact h
set_option maxRecDepth 100000 in
set_option maxHeartbeats 16000000 in
theorem wireSelects_any (v : Value) (U : List (BitVec 32)) (i : Int) (w : World) (hA : RowA w 1 v U.length (U.map cU)) (hv : RwX cU w v U) (hl : U.length * 4 ≤ 140737488351232) (hi0 : -9223372036854775808 ≤ i) (hi1 : i ≤ 9223372036854775807) (hT : Hf w) :
    Calls Tryd.prog 5 #[v, .int .i64 i] w fun e w' => e = .returned (.bool true) ∧ Below w.heap.size w w' := by
  have HT := hid13 hT
  have HV := hid13 hv
  have HL : Hid (U.length ≤ 100000000000000) := by show _ ≤ _; omega
  have HI := hid13 (And.intro hi0 hi1)
  obtain ⟨vo, vc, hvf, -⟩ := id hv
  have hlU : (U.length : Int) ≤ 35184372087808 := by omega
  clear hT hA hv hl hi0 hi1
  subst hvf
  go_enter Tryd.func5, Tryd.ntmps5
  go_wp2_with fail
  refine (known13 _ HT.out).mono ?_
  rintro e w1 ⟨rfl, hb1⟩
  have HB1 := hid13 hb1
  clear hb1 HT
  by_cases hz : U.length = 0
  · have hz1 : ((U.length : Int) == 0) = true := by simp [hz]
    clear hz
    go_wp2_with fail
    go_ret
    exact ⟨rfl, HB1.out⟩
  have hz1 : ((U.length : Int) == 0) = false := by rw [beq_eq_false_iff_ne]; omega
  by_cases hbig : 300 < U.length
  · have hbi : 300 < (U.length : Int) := by omega
    clear hz
    go_wp2_with fail
    go_ret
    exact ⟨rfl, HB1.out⟩
  have hbi : ¬ 300 < (U.length : Int) := by omega
  have HU : Hid (U.length ≤ 300) := by show _ ≤ _; omega
  have hl3 : (U.length : Int) ≤ 300 := by omega
  clear hz hbig
  go_wp2_with fail
  refine (ones_any _ U w1 (HV.out.below HB1.out) HL.out).mono ?_
  rintro e w2 ⟨rfl, hb2⟩
  obtain ⟨ON, hON⟩ : ∃ r : Nat, r = sumW U U.length := ⟨_, rfl⟩
  rw [← hON]
  have HON := hid13 hON
  have HB2 := hid13 (keepb hb2 HB1.out)
  have hONb : (ON : Int) ≤ 9600 := by have h1 := sumW_le U U.length; have h2 := HU.out; omega
  clear hb2 HB1 hON
  go_wp2_with fail
  go_loopg [6, 7, 8, 9, 10, 11, 12, 13] (32 * U.length) (fun g la k p r9 e10 s11 s12 f13 wr => ∃ j m : Nat, j + g = 32 * U.length ∧ p = .int .i64 (j : Int) ∧ la = .int .i64 (m : Int) ∧ k = .int .i64 (m : Int) ∧ m ≤ j ∧ Hid (m = cnt U j ∧ Below w.heap.size w wr))
  case atStart => exact ⟨0, 0, by omega, rfl, rfl, rfl, Nat.le_refl _, rfl, HB2.out⟩
  case round =>
    clear HB2
    obtain ⟨j, m, hk, rfl, rfl, rfl, hmj, HS⟩ := hrel
    by_cases hlt : j < 32 * U.length
    · have hli : (j : Int) < 32 * (U.length : Int) := by omega
      obtain ⟨q, hq⟩ : ∃ q, q = j / 32 := ⟨_, rfl⟩
      obtain ⟨r, hr⟩ : ∃ r, r = j % 32 := ⟨_, rfl⟩
      obtain ⟨s, hs⟩ : ∃ s, s + r = 31 := ⟨31 - r, by omega⟩
      have hql : q < U.length := by omega
      obtain ⟨x, hx⟩ : ∃ x, U[q]? = some x := ⟨U[q], by simp [hql]⟩
      obtain ⟨bo, off, rfl, hc1⟩ : ∃ bo off, vo = some ⟨bo, off, none⟩ ∧ ∀ j x, U[j]? = some x → w.cell? ⟨bo, off + j, none⟩ = some (cU x) := by
        obtain ⟨ao', c', e, -, h⟩ := HV.out
        injection e with e1 e2 e3
        subst e1
        rcases h with h | h
        · rw [h] at hql; simp at hql
        · exact h
      have HC1 : Hid (w.cell? ⟨bo, off + q, none⟩ = some (.int .u32 (uI x))) := hc1 q x hx
      have HP : Hid (plc U j = x.getLsbD s) := by
        show _ = _
        unfold plc bt
        rw [← hq, ← hr, List.getD_eq_getElem?_getD, hx, Option.getD_some, show 31 - r = s by omega]
      have hq1 : (j : Int) / 32 = (q : Int) := by omega
      have hr1 : (j : Int) % 32 = (r : Int) := by omega
      have hs1 : 31 - (r : Int) = (s : Int) := by omega
      have hqi : ((q : Nat) : Int) < (U.length : Int) := by omega
      have hs32 : s < 32 := by omega
      have hb := bitI2 x s
      have mk : IntKind.i64.wrap ((j : Int) + 1) = (j : Int) + 1 := by rw [IntKind.wrap_i64]; omega
      have mm : IntKind.i64.wrap ((m : Int) + 1) = (m : Int) + 1 := by rw [IntKind.wrap_i64]; omega
      have HK : Hid (j + gk = 32 * U.length ∧ j < 32 * U.length ∧ m ≤ j) := ⟨hk, hlt, hmj⟩
      have KR := rank_any _ U (j : Int) wr (HV.out.below HS.out.2) HL.out (by omega) (by omega)
      have e1 : rkN U (j : Int) = cnt U (j + 1) ∧ rkE U (j : Int) = 0 := by
        unfold rkN rkE
        rw [if_pos ⟨by omega, hli⟩, if_pos ⟨by omega, hli⟩, Int.toNat_natCast]
        exact ⟨rfl, rfl⟩
      rw [e1.1, e1.2] at KR
      have HE : Hid (cnt U (j + 1) = m + (plc U j).toNat) := by show _ = _; simp only [cnt]; rw [HS.out.1]
      clear hc1 hx hq hr hs hk hmj e1 hql
      cases c : plc U j
      · rw [c] at HE HP
        simp only [Bool.toNat_false, Nat.add_zero] at HE
        rw [HE.out] at KR
        rw [← HP.out] at hb
        simp only [Bool.false_eq_true, if_false] at hb
        clear c
        go_wp2_with fail
        refine KR.mono ?_
        rintro e w3 ⟨rfl, hb3⟩
        have r1 := keepc hb3 (keepc HS.out.2 HC1.out)
        have HN : Hid (m = cnt U (j + 1) ∧ Below w.heap.size w w3) := ⟨HE.out.symm, keepb hb3 HS.out.2⟩
        clear hb3 HS KR HC1
        go_wp2
        go_roundg (gk - 1)
        case measure => have := HK.out; omega
        case rel => exact ⟨j + 1, m, by have := HK.out; omega, rfl, rfl, rfl, by have := HK.out; omega, HN⟩
      · have HPL : Hid (plc U j = true) := c
        rw [c] at HE HP
        simp only [Bool.toNat_true] at HE
        rw [HE.out] at KR
        rw [← HP.out] at hb
        simp only [if_true] at hb
        clear c
        go_wp2_with fail
        refine KR.mono ?_
        rintro e w3 ⟨rfl, hb3⟩
        have r1 := keepc hb3 (keepc HS.out.2 HC1.out)
        have HB3 := hid13 (keepb hb3 HS.out.2)
        have HM := hid13 HS.out.1
        have m1 : (((m + 1 : Nat)) : Int) = (m : Int) + 1 := by omega
        rw [m1]
        clear hb3 HS KR HC1 m1
        go_wp2_with fail
        refine (select_any _ U (m : Int) w3 (HV.out.below HB3.out) HL.out (by omega) (by have := HK.out; omega)).mono ?_
        rintro e w4 ⟨hS4, hb4⟩
        rw [HM.out] at hS4
        obtain rfl := selR_at hS4 HPL.out HK.out.2.1
        have HN : Hid (m + 1 = cnt U (j + 1) ∧ Below w.heap.size w w4) := ⟨HE.out.symm, keepb hb4 HB3.out⟩
        clear hb4 hS4 HB3 r1 hb
        go_wp2
        go_roundg (gk - 1)
        case measure => have := HK.out; omega
        case rel => exact ⟨j + 1, m + 1, by have := HK.out; omega, rfl, rfl, rfl, by have := HK.out; omega, HN⟩
    · have hli : ¬ (j : Int) < 32 * (U.length : Int) := by omega
      obtain rfl : j = 32 * U.length := by omega
      have hmo : m = ON := by rw [HS.out.1, HON.out, cnt_words]
      subst hmo
      have HB5 := hid13 HS.out.2
      clear HS
      go_wp2_with fail
      refine (select_any _ U (m : Int) wr (HV.out.below HB5.out) HL.out (by omega) (by omega)).mono ?_
      rintro e w6 ⟨hS6, hb6⟩
      obtain rfl := selR_out hS6 (.inr (by rw [HON.out]; exact Int.le_refl _))
      have HB6 := hid13 (keepb hb6 HB5.out)
      clear hb6 hS6 HB5
      go_wp2_with fail
      refine (within13 i 5 (by omega) (by omega) HI.out.1 HI.out.2 w6).mono ?_
      rintro e w7 ⟨⟨r, rfl, hr0, hr5⟩, hw7⟩
      replace hw7 := hw7.symm
      subst hw7
      have mr : IntKind.i64.wrap (-1 - r) = -1 - r := by rw [IntKind.wrap_i64]; omega
      go_wp2_with fail
      refine (select_any _ U (-1 - r) w6 (HV.out.below HB6.out) HL.out (by omega) (by omega)).mono ?_
      rintro e w8 ⟨hS8, hb8⟩
      obtain rfl := selR_out hS8 (.inl (by omega))
      have HB8 := hid13 (keepb hb8 HB6.out)
      clear hb8 hS8 HB6
      go_wp2
      go_ret
      exact ⟨rfl, HB8.out⟩
end Go.Proofs.YthbdmdafldombabDoor
namespace Go.Proofs.YthbdmdafldombabDoor
open Go.ChangeShapes Go.WideShapes Go.ChangeAt Go.RowKit Go.Joins
set_option linter.unusedSimpArgs false
set_option linter.unusedVariables false

theorem Tryd.laidOut : laidOutB Tryd.prog = true := by kernel_rfl
theorem reach13 : reachBytes ≤ 140737488351232 := by decide
section
variable {H : Type} {enc : TypeId × Value → H} {w : World} {spare : Nat → Bool} {held : Bool}
theorem RwX.map13 {α β : Type} {f : α → Value} {g : β → Value} (h : α → β) {v : Value} {l : List α} (hr : RwX f w v l) (he : ∀ x ∈ l, f x = g (h x)) : RwX g w v (l.map h) := by
  obtain ⟨ao, c, e, hc, hr⟩ := hr
  refine ⟨ao, c, by rw [List.length_map]; exact e, by rw [List.length_map]; exact hc, ?_⟩
  rcases hr with hr | ⟨b, off, e, hr⟩
  · exact .inl (by rw [hr]; rfl)
  · refine .inr ⟨b, off, e, fun j x hj => ?_⟩
    rw [List.getElem?_map] at hj
    cases hx : l[j]? with
    | none => rw [hx] at hj; cases hj
    | some y =>
      rw [hx] at hj
      simp only [Option.map_some, Option.some.injEq] at hj
      rw [hr j y hx, he y (List.mem_of_getElem? hx), hj]
set_option maxRecDepth 100000 in
theorem open_ints13 {t e : TypeId} {k : IntKind} (ht : Tryd.prog.underlying t = some (.slice e)) (he : Tryd.prog.underlying e = some (.int k)) (hce : Tryd.prog.cellsOf e = 1) {r : Reach} {b0 : Nat} {v : Value} {d : DataW H} {p : List MemPlace} (hv : Value.okWide Tryd.prog w r b0 t v) (h : DataW.Trod enc Tryd.prog w 0 (fun _ => true) held t v d p) :
    ∃ l : List Int, RowA w 1 v l.length (l.map fun a => .int k a) ∧ RwX (fun a => Value.int k a) w v l ∧ (∀ a ∈ l, (Lit.int k a).wf = true) ∧ (l = [] ∨ ∃ el sp, d = .slice el sp ∧ el.length = l.length) := by
  obtain ⟨a0, len, cap, rfl⟩ := okWide_slice ht hv
  obtain ⟨fuel, hf⟩ := h
  rcases Deep.open_slice ht hf with ⟨hcs, hx⟩ | ⟨a, len', cap', m, n, D, Pl, hcs, _, hl, hm, hmm, hx, hel⟩
  · simp [Value.cells] at hcs
    obtain ⟨rfl, rfl, rfl⟩ := hcs
    exact ⟨[], ⟨rfl, none, 0, rfl, Nat.le_refl _, .inl ⟨rfl, rfl, rfl⟩⟩, ⟨none, 0, rfl, Nat.le_refl _, .inl rfl⟩, (fun _ h => by cases h), .inl rfl⟩
  · simp [Value.cells] at hcs
    obtain ⟨rfl, rfl, rfl⟩ := hcs
    simp at hmm
    subst hmm
    rw [hce] at hel
    obtain ⟨f, hf⟩ := Deep.choose_lt (α := Int) (n := len) (p := fun i x => w.cell? (a.add i) = some (.int k x) ∧ (Lit.int k x).wf = true) (fun i hi => by
      obtain ⟨cs', h1, h2⟩ := hel i (by omega)
      obtain ⟨_, hlen, hc⟩ := World.cells?_some h1
      match cs', hlen with
      | [c0], _ =>
        obtain ⟨x, ex, -, wx⟩ := DataW.trod_int he h2
        simp at ex
        subst ex
        refine ⟨x, ?_, wx⟩
        have := hc 0 (by omega)
        simpa [Addr.add] using this)
    have hlen : ((List.range len).map f).length = len := by simp
    have hcells : ∀ j x, ((List.range len).map f)[j]? = some x → w.cell? (a.add j) = some (.int k x) := by
      intro j x hj
      have hlt : j < len := by have := (List.getElem?_eq_some_iff.1 hj).1; simpa using this
      rw [List.getElem?_map, List.getElem?_range hlt] at hj
      simp only [Option.map_some, Option.some.injEq] at hj
      rw [← hj]; exact (hf j hlt).1
    refine ⟨(List.range len).map f, ⟨by simp, some a, m, by rw [hlen], by rw [hlen]; exact hl, .inr ⟨a, rfl, fun j u hj => ?_⟩⟩, ⟨some a, m, by rw [hlen], by rw [hlen]; exact hl, ?_⟩, ?_, ?_⟩
    · rw [List.getElem?_map] at hj
      cases hx : ((List.range len).map f)[j]? with
      | none => rw [hx] at hj; cases hj
      | some y =>
        rw [hx] at hj
        simp only [Option.map_some, Option.some.injEq] at hj
        rw [← hj]; exact hcells j y hx
    · by_cases hz : len = 0
      · subst hz
        exact .inl (by simp)
      · have h00 := (hf 0 (by omega)).1
        have ea : a = ⟨a.block, a.off, none⟩ := by
          have : a.add 0 = a := by simp [Addr.add]
          rw [this] at h00
          exact spot9 h00
        refine .inr ⟨a.block, a.off, by rw [← ea], fun j u hj => ?_⟩
        have := hcells j u hj
        rw [ea, addA] at this
        exact this
    · intro x hx
      simp only [List.mem_map, List.mem_range] at hx
      obtain ⟨i, hi, rfl⟩ := hx
      exact (hf i hi).2
    · simp only [Prod.mk.injEq] at hx
      exact .inr ⟨_, _, hx.1, by simp⟩
end
end Go.Proofs.YthbdmdafldombabDoor
