/-
  Part 3 of the proof: 5 texts, one behind the other.
-/
import Derived.Test.YthbdmdafldombaaDoorPart2
import Derived.Test.YthbdmdafldombaaDoorPart1
import Derived.WalkMore
import Derived.ScopeJumps
import Derived.Lib.SlBytesConst
namespace Go.Proofs.YthbdmdafldombaaDoor
open Go.RowKit
set_option linter.unusedSimpArgs false
set_option linter.unusedVariables false

set_option maxRecDepth 100000 in
theorem is13 (v : Value) (U : List (BitVec 32)) (k : Nat) (w : World) (hv : RwX cU w v U) (hk : k < 32 * U.length) (hl : U.length ≤ 100000000000000) :
    Calls Tryd.prog 43 #[v, .int .i64 (k : Int)] w fun e w' => e = .returned (.bool (plc U k)) ∧ w' = w := by
  obtain ⟨ao, cc, rfl, -, hv⟩ := hv
  obtain ⟨q, hq⟩ : ∃ q, q = k / 32 := ⟨_, rfl⟩
  obtain ⟨r, hr⟩ : ∃ r, r = k % 32 := ⟨_, rfl⟩
  have hql : q < U.length := by omega
  obtain ⟨x, hx⟩ : ∃ x, U[q]? = some x := ⟨U[q], by simp [hql]⟩
  obtain ⟨bo, off, rfl, hc1⟩ : ∃ bo off, ao = some ⟨bo, off, none⟩ ∧ ∀ j x, U[j]? = some x → w.cell? ⟨bo, off + j, none⟩ = some (cU x) := by
    rcases hv with h | h
    · rw [h] at hql; simp at hql
    · exact h
  have r1 : w.cell? ⟨bo, off + q, none⟩ = some (.int .u32 (uI x)) := hc1 q x hx
  obtain ⟨s, hs⟩ : ∃ s, s + r = 31 := ⟨31 - r, by omega⟩
  have hq1 : (k : Int) / 32 = (q : Int) := by omega
  have hr1 : (k : Int) % 32 = (r : Int) := by omega
  have hs1 : 31 - (r : Int) = (s : Int) := by omega
  have hb := bitI x s (by omega)
  have hqi : ((q : Nat) : Int) < (U.length : Int) := by omega
  have HP : Hid (plc U k = x.getLsbD s) := by
    show _ = _
    unfold plc bt
    rw [← hq, ← hr, List.getD_eq_getElem?_getD, hx, Option.getD_some, show 31 - r = s by omega]
  rw [HP.out]
  have hs32 : s < 32 := by omega
  clear hc1 hx hq hr hs hv hk HP hql
  cases c : x.getLsbD s
  · rw [c] at hb
    simp only [Bool.false_eq_true, if_false] at hb
    clear c
    go_enter Tryd.func43, Tryd.ntmps43
    go_wp2
    go_ret
    exact ⟨rfl, rfl⟩
  · rw [c] at hb
    simp only [if_true] at hb
    clear c
    go_enter Tryd.func43, Tryd.ntmps43
    go_wp2
    go_ret
    exact ⟨rfl, rfl⟩
set_option maxRecDepth 100000 in
set_option maxHeartbeats 8000000 in
theorem rrank13 (v : Value) (U : List (BitVec 32)) (i : Int) (w : World) (hv : RwX cU w v U) (hl : U.length ≤ 100000000000000) (h0 : -9223372036854775808 ≤ i) (h1 : i ≤ 9223372036854775807) :
    Calls Tryd.prog 25 #[v, .int .i64 i] w fun e w' => e = .returned (.tuple #[.int .i64 ((rkN U i : Nat) : Int), .int .i64 (rkE U i)]) ∧ w' = w := by
  have HV := hid13 hv
  obtain ⟨ao, cc, rfl, -, -⟩ := hv
  have hl0 : (U.length : Int) ≤ 100000000000000 := by omega
  have HL := hid13 hl
  unfold rkN rkE
  by_cases h : 0 ≤ i ∧ i < 32 * (U.length : Int)
  · rw [if_pos h, if_pos h]
    obtain ⟨j, rfl⟩ : ∃ j : Nat, i = (j : Int) := ⟨i.toNat, by omega⟩
    rw [Int.toNat_natCast]
    have hj : (j : Int) < 32 * (U.length : Int) := h.2
    have hjn : ¬ (32 * (U.length : Int) ≤ (j : Int)) := by omega
    have HJ : Hid (j < 32 * U.length) := by show _ < _; omega
    clear h hl h0 h1
    go_enter Tryd.func25, Tryd.ntmps25
    go_wp2_with fail
    go_loopg [6, 7] (j + 1) (fun g n i wr => wr = w ∧ ∃ k m : Nat, k + g = j + 1 ∧ i = .int .i64 (k : Int) ∧ n = .int .i64 (m : Int) ∧ m ≤ k ∧ Hid (m = cnt U k))
    case atStart => exact ⟨rfl, 0, 0, by omega, rfl, rfl, Nat.le_refl _, rfl⟩
    case round =>
      obtain ⟨hw, k, m, hk, rfl, rfl, hmk, HM⟩ := hrel
      replace hw := hw.symm
      subst hw
      by_cases hlt : k ≤ j
      · have hli : (k : Int) ≤ (j : Int) := by omega
        have KI := is13 _ U k w HV.out (by have := HJ.out; omega) HL.out
        have mk : IntKind.i64.wrap ((k : Int) + 1) = (k : Int) + 1 := by rw [IntKind.wrap_i64]; omega
        have mm : IntKind.i64.wrap ((m : Int) + 1) = (m : Int) + 1 := by rw [IntKind.wrap_i64]; omega
        have HS : Hid (cnt U (k + 1) = m + (plc U k).toNat) := by show _ = _; simp only [cnt]; rw [HM.out]
        have HK : Hid (k + gk = j + 1 ∧ k ≤ j ∧ m ≤ k) := ⟨hk, hlt, hmk⟩
        clear hk hmk HM
        cases c : plc U k
        · rw [c] at KI HS
          simp only [Bool.toNat_false, Nat.add_zero] at HS
          clear c
          go_wp2_with (go_at_call 43; refine KI.mono ?_; rintro e w1 ⟨rfl, hw1⟩; replace hw1 := hw1.symm; subst hw1)
          go_roundg (gk - 1)
          case measure => have := HK.out; omega
          case rel => exact ⟨rfl, k + 1, m, by have := HK.out; omega, rfl, rfl, by have := HK.out; omega, HS.out.symm⟩
        · rw [c] at KI HS
          simp only [Bool.toNat_true] at HS
          clear c
          go_wp2_with (go_at_call 43; refine KI.mono ?_; rintro e w1 ⟨rfl, hw1⟩; replace hw1 := hw1.symm; subst hw1)
          go_roundg (gk - 1)
          case measure => have := HK.out; omega
          case rel => exact ⟨rfl, k + 1, m + 1, by have := HK.out; omega, rfl, rfl, by have := HK.out; omega, HS.out.symm⟩
      · have hli : ¬ (k : Int) ≤ (j : Int) := by omega
        obtain rfl : k = j + 1 := by omega
        go_wp2_with fail
        exact bodyPost_ret (v := .tuple #[.int .i64 (m : Int), .int .i64 0]) (by simp [results, Tryd.results25, go_sem]) rfl ⟨by rw [HM.out], rfl⟩
  · rw [if_neg h, if_neg h]
    by_cases hn : i < 0
    · go_enter Tryd.func25, Tryd.ntmps25
      go_wp2_with fail
      exact bodyPost_ret (v := .tuple #[.int .i64 0, .int .i64 30]) (by simp [results, Tryd.results25, go_sem]) rfl ⟨rfl, rfl⟩
    · have hge : 32 * (U.length : Int) ≤ i := by omega
      clear h
      go_enter Tryd.func25, Tryd.ntmps25
      go_wp2_with fail
      exact bodyPost_ret (v := .tuple #[.int .i64 0, .int .i64 30]) (by simp [results, Tryd.results25, go_sem]) rfl ⟨rfl, rfl⟩
set_option maxRecDepth 100000 in
set_option maxHeartbeats 8000000 in
theorem rselect13 (v : Value) (U : List (BitVec 32)) (k : Int) (w : World) (hv : RwX cU w v U) (hl : U.length ≤ 100000000000000) (h0 : -9223372036854775808 ≤ k) (h1 : k ≤ 9223372036854775807) :
    Calls Tryd.prog 26 #[v, .int .i64 k] w fun e w' => SelR U k e ∧ w' = w := by
  have HV := hid13 hv
  obtain ⟨ao, cc, rfl, -, -⟩ := hv
  have hl0 : (U.length : Int) ≤ 100000000000000 := by omega
  have HL := hid13 hl
  by_cases hn : k < 0
  · go_enter Tryd.func26, Tryd.ntmps26
    go_wp2_with fail
    exact bodyPost_ret (v := .tuple #[.int .i64 0, .int .i64 2]) (by simp [results, Tryd.results26, go_sem]) rfl ⟨.inr ⟨by omega, rfl⟩, rfl⟩
  obtain ⟨K, rfl⟩ : ∃ K : Nat, k = (K : Int) := ⟨k.toNat, by omega⟩
  clear hl h0
  go_enter Tryd.func26, Tryd.ntmps26
  go_wp2_with fail
  go_loopg [1, 6] (32 * U.length) (fun g kv i wr => wr = w ∧ ∃ p m : Nat, p + g = 32 * U.length ∧ i = .int .i64 (p : Int) ∧ kv = .int .i64 (m : Int) ∧ m ≤ K ∧ Hid (m + cnt U p = K))
  case atStart => exact ⟨rfl, 0, K, by omega, rfl, rfl, Nat.le_refl _, rfl⟩
  case round =>
    obtain ⟨hw, p, m, hk, rfl, rfl, hmK, HM⟩ := hrel
    replace hw := hw.symm
    subst hw
    by_cases hlt : p < 32 * U.length
    · have hli : (p : Int) < 32 * (U.length : Int) := by omega
      have KI := is13 _ U p w HV.out hlt HL.out
      have mk : IntKind.i64.wrap ((p : Int) + 1) = (p : Int) + 1 := by rw [IntKind.wrap_i64]; omega
      have HS : Hid (cnt U (p + 1) = cnt U p + (plc U p).toNat) := rfl
      have HK : Hid (p + gk = 32 * U.length ∧ p < 32 * U.length ∧ m ≤ K) := ⟨hk, hlt, hmK⟩
      cases c : plc U p
      · rw [c] at KI HS
        simp only [Bool.toNat_false, Nat.add_zero] at HS
        have HN : Hid (m + cnt U (p + 1) = K) := by show _ = _; rw [HS.out]; exact HM.out
        clear c hk hmK HM
        go_wp2_with (go_at_call 43; refine KI.mono ?_; rintro e w1 ⟨rfl, hw1⟩; replace hw1 := hw1.symm; subst hw1)
        go_roundg (gk - 1)
        case measure => have := HK.out; omega
        case rel => exact ⟨rfl, p + 1, m, by have := HK.out; omega, rfl, rfl, HK.out.2.2, HN⟩
      · rw [c] at KI HS
        simp only [Bool.toNat_true] at HS
        by_cases hz : m = 0
        · subst hz
          have HQ : Hid (SelR U (K : Int) (.returned (.tuple #[.int .i64 (p : Int), .int .i64 0]))) := by
            have hm := HM.out
            have h2 := cnt_mono U (p + 1) (32 * U.length) (by omega)
            rw [HS.out, cnt_words] at h2
            exact .inl ⟨by omega, by omega, p, rfl, hlt, c, by rw [Int.toNat_natCast]; omega⟩
          clear c hk hmK HM
          go_wp2_with (go_at_call 43; refine KI.mono ?_; rintro e w1 ⟨rfl, hw1⟩; replace hw1 := hw1.symm; subst hw1)
          exact bodyPost_ret (v := .tuple #[.int .i64 (p : Int), .int .i64 0]) (by simp [results, Tryd.results26, go_sem]) rfl ⟨HQ.out, rfl⟩
        · have hzi : ((m : Int) == 0) = false := by simp; omega
          obtain ⟨m', hm'⟩ : ∃ m', m' + 1 = m := ⟨m - 1, by omega⟩
          have hmi : (m : Int) - 1 = (m' : Int) := by omega
          have HN : Hid (m' + cnt U (p + 1) = K) := by show _ = _; rw [HS.out]; have := HM.out; omega
          have hm'K : m' ≤ K := by omega
          clear c hk hmK HM hz hm'
          go_wp2_with (go_at_call 43; refine KI.mono ?_; rintro e w1 ⟨rfl, hw1⟩; replace hw1 := hw1.symm; subst hw1)
          go_roundg (gk - 1)
          case measure => have := HK.out; omega
          case rel => exact ⟨rfl, p + 1, m', by have := HK.out; omega, rfl, rfl, hm'K, HN⟩
    · have hli : ¬ (p : Int) < 32 * (U.length : Int) := by omega
      obtain rfl : p = 32 * U.length := by omega
      have HQ : Hid (¬ (0 ≤ (K : Int) ∧ (K : Int) < (sumW U U.length : Int))) := by
        show ¬ _
        have := HM.out
        rw [cnt_words] at this; omega
      go_wp2_with fail
      exact bodyPost_ret (v := .tuple #[.int .i64 0, .int .i64 2]) (by simp [results, Tryd.results26, go_sem]) rfl ⟨.inr ⟨HQ.out, rfl⟩, rfl⟩
theorem and_pred (n : Nat) (h0 : 0 < n) (h : n < 4294967296) : bits .and .u32 (n : Int) ((n : Int) - 1) = ((n &&& (n - 1) : Nat) : Int) := by
  have h1 : (n : Int) = uI (BitVec.ofNat 32 n) := lit32 n h
  have h2 : (n : Int) - 1 = uI (BitVec.ofNat 32 (n - 1)) := by rw [uI_of _ (by omega)]; omega
  rw [h2, h1, and32, uI_eq, BitVec.toNat_and, BitVec.toNat_ofNat, BitVec.toNat_ofNat]
  have h3 : (2 : Nat) ^ 32 = 4294967296 := by decide
  rw [h3, Nat.mod_eq_of_lt h, Nat.mod_eq_of_lt (by omega)]
set_option maxRecDepth 100000 in
set_option maxHeartbeats 8000000 in
theorem rones13 (v : Value) (U : List (BitVec 32)) (w : World) (hv : RwX cU w v U) (hl : U.length ≤ 100000000000000) :
    Calls Tryd.prog 28 #[v] w fun e w' => e = .returned (.int .i64 ((sumW U U.length : Nat) : Int)) ∧ w' = w := by
  obtain ⟨ao, cc, rfl, -, hv⟩ := hv
  have HV := hid13 hv
  have HL := hid13 hl
  clear hv hl
  go_enter Tryd.func28, Tryd.ntmps28
  go_wp2_with fail
  go_loopg [3, 4, 5] U.length (fun g n i x wr => wr = w ∧ ∃ k m : Nat, k + g = U.length ∧ i = .int .i64 (k : Int) ∧ n = .int .i64 (m : Int) ∧ Hid (m = sumW U k))
  case atStart => exact ⟨rfl, 0, 0, by omega, rfl, rfl, rfl⟩
  case round =>
    obtain ⟨hw, k, m, hk, rfl, rfl, HM⟩ := hrel
    replace hw := hw.symm
    subst hw
    by_cases hlt : k < U.length
    · have hli : (k : Int) < (U.length : Int) := by omega
      obtain ⟨bo, off, rfl, hc1⟩ : ∃ bo off, ao = some ⟨bo, off, none⟩ ∧ ∀ j x, U[j]? = some x → w.cell? ⟨bo, off + j, none⟩ = some (cU x) := by
        rcases HV.out with h | h
        · rw [h] at hlt; simp at hlt
        · exact h
      obtain ⟨x, hx⟩ : ∃ x, U[k]? = some x := ⟨U[k], by simp [hlt]⟩
      have r1 : w.cell? ⟨bo, off + k, none⟩ = some (.int .u32 (uI x)) := hc1 k x hx
      have mk : IntKind.i64.wrap ((k : Int) + 1) = (k : Int) + 1 := by have := HL.out; rw [IntKind.wrap_i64]; omega
      have HE : Hid (m + bsN 32 x.toNat = sumW U (k + 1) ∧ sumW U (k + 1) ≤ 3200000000000000) := by
        have h1 := sumW_le U (k + 1)
        have h2 := HL.out
        refine ⟨?_, by omega⟩
        simp only [sumW]
        rw [List.getD_eq_getElem?_getD, hx, Option.getD_some, HM.out]; rfl
      have HK : Hid (k + gk = U.length ∧ k < U.length) := ⟨hk, hlt⟩
      have HX : Hid (uI x = (x.toNat : Int) ∧ x.toNat < 4294967296) := ⟨uI_eq x, x.isLt⟩
      clear hc1 hx hk HM
      go_wp2_with fail
      obtain ⟨gk0, hgk0⟩ : ∃ g, g = gk := ⟨_, rfl⟩
      rw [← hgk0] at HK
      go_loopg [3, 5] 33 (fun g n v wr => wr = w ∧ ∃ (a : Nat) (B : Int), n = .int .i64 (a : Int) ∧ v = .int .u32 B ∧ Hid (∃ b : Nat, B = (b : Int) ∧ bsN 32 b < g ∧ b < 4294967296 ∧ a + bsN 32 b = sumW U (k + 1)))
      case atStart => exact ⟨rfl, m, uI x, rfl, rfl, x.toNat, HX.out.1, by have := bsN_le 32 x.toNat; omega, HX.out.2, HE.out.1⟩
      case round =>
        obtain ⟨hw, a, B, rfl, rfl, HA⟩ := hrel
        replace hw := hw.symm
        subst hw
        obtain ⟨b, hBb, hbg, hb32, hab⟩ := HA.out
        by_cases hz : b = 0
        · have hB0 : B = 0 := by omega
          subst hB0
          have HN : Hid (a = sumW U (k + 1)) := by show _ = _; rw [hz, bsN_zero] at hab; omega
          clear hbg HA hz hBb hb32 hab
          go_wp2_with fail
          go_roundg (gk0 - 1)
          case measure => rw [← hgk0]; have := HK.out; omega
          case rel => exact ⟨rfl, k + 1, a, by have := HK.out; omega, rfl, rfl, HN⟩
        · have hzi : 0 < B := by omega
          have hcl := clear_low 32 b (by omega) (by have : (2 : Nat) ^ 32 = 4294967296 := by decide
                                                    omega)
          obtain ⟨c, hc⟩ : ∃ c, c = b &&& (b - 1) := ⟨_, rfl⟩
          have han := and_pred b (by omega) hb32
          rw [← hc] at hcl han
          have hcb : c ≤ b := by rw [hc]; exact Nat.and_le_left
          obtain ⟨C, hC⟩ : ∃ C : Int, C = (c : Int) := ⟨_, rfl⟩
          rw [← hC, ← hBb] at han
          have HN : Hid (∃ b : Nat, C = (b : Int) ∧ bsN 32 b < gk - 1 ∧ b < 4294967296 ∧ a + 1 + bsN 32 b = sumW U (k + 1)) := ⟨c, hC, by omega, by omega, by omega⟩
          have ma : IntKind.i64.wrap ((a : Int) + 1) = (a : Int) + 1 := by have h2 := HE.out.2; rw [IntKind.wrap_i64]; omega
          have hb1 : B < 4294967296 := by omega
          have HG : Hid (0 < gk) := by show 0 < gk; omega
          clear hc hcl hz hC hBb hbg hb32 hab hcb HA
          go_wp2_with fail
          go_roundg (gk - 1)
          case measure => have := HG.out; omega
          case rel => exact ⟨rfl, a + 1, C, rfl, rfl, HN⟩
    · have hli : ¬ (k : Int) < (U.length : Int) := by omega
      obtain rfl : k = U.length := by omega
      go_wp2_with fail
      go_ret
      exact ⟨by rw [← HM.out]; rfl, rfl⟩
end Go.Proofs.YthbdmdafldombaaDoor
namespace Go.Proofs.YthbdmdafldombaaDoor
open Go.RowKit
set_option linter.unusedSimpArgs false
set_option linter.unusedVariables false

set_option maxRecDepth 100000 in
set_option maxHeartbeats 8000000 in
theorem same32_any (v1 v2 : Value) (l : List (BitVec 32)) (w : World) (h1 : RwX cU w v1 l) (h2 : RwX cU w v2 l) (hl : l.length ≤ 9223372036854775806) :
    Calls Tryd.prog 27 #[v1, v2] w fun e w' => e = .returned (.bool true) ∧ Below w.heap.size w w' := by
  obtain ⟨ao, cc, rfl, -, hv1⟩ := h1
  obtain ⟨ao2, cc2, rfl, -, hv2⟩ := h2
  have HV1 := hid13 hv1
  have HV2 := hid13 hv2
  have HL := hid13 hl
  have HB := hid13 (Below.refl w.heap.size w)
  clear hv1 hv2 hl
  go_enter Tryd.func27, Tryd.ntmps27
  go_wp2_with fail
  go_loopg [5] l.length (fun g i wr => ∃ k : Nat, k + g = l.length ∧ i = .int .i64 (k : Int) ∧ Hid (Below w.heap.size w wr))
  case atStart => exact ⟨0, by omega, rfl, HB⟩
  case round =>
    clear HB
    obtain ⟨k, hk, rfl, HB⟩ := hrel
    by_cases hlt : k < l.length
    · have hli : (k : Int) < (l.length : Int) := by omega
      obtain ⟨bo, off, rfl, hc1⟩ : ∃ bo off, ao = some ⟨bo, off, none⟩ ∧ ∀ j x, l[j]? = some x → w.cell? ⟨bo, off + j, none⟩ = some (cU x) := by
        rcases HV1.out with h | h
        · rw [h] at hlt; simp at hlt
        · exact h
      obtain ⟨bo2, off2, rfl, hc2⟩ : ∃ bo off, ao2 = some ⟨bo, off, none⟩ ∧ ∀ j x, l[j]? = some x → w.cell? ⟨bo, off + j, none⟩ = some (cU x) := by
        rcases HV2.out with h | h
        · rw [h] at hlt; simp at hlt
        · exact h
      obtain ⟨x, hx⟩ : ∃ x, l[k]? = some x := ⟨l[k], by simp [hlt]⟩
      have r1 : wr.cell? ⟨bo, off + k, none⟩ = some (.int .u32 (uI x)) := keepc HB.out (hc1 k x hx)
      have r2 : wr.cell? ⟨bo2, off2 + k, none⟩ = some (.int .u32 (uI x)) := keepc HB.out (hc2 k x hx)
      have mk : IntKind.i64.wrap ((k : Int) + 1) = (k : Int) + 1 := by have := HL.out; rw [IntKind.wrap_i64]; omega
      have HK : Hid (k + gk = l.length ∧ k < l.length) := ⟨hk, hlt⟩
      have HB2 := hid13 HB.out.drew
      clear hc1 hc2 hx hk
      go_wp2_with fail
      go_region
      go_wp2
      go_roundg (gk - 1)
      case measure => have := HK.out; omega
      case rel => exact ⟨k + 1, by have := HK.out; omega, rfl, HB2⟩
    · have hli : ¬ (k : Int) < (l.length : Int) := by omega
      go_wp2_with fail
      go_ret
      exact ⟨rfl, HB.out⟩
end Go.Proofs.YthbdmdafldombaaDoor
namespace Go.Proofs.YthbdmdafldombaaDoor
open Go.RowKit
set_option linter.unusedSimpArgs false
set_option linter.unusedVariables false

def Hf (w : World) : Prop := ∀ j, j < 16 → w.cell? ⟨0, j, none⟩ = some (.int .u32 (uI (cT j)))
theorem Hf.below {w w' : World} (h : Hf w) (hb : Below w.heap.size w w') : Hf w' := fun j hj => keepc hb (h j hj)
theorem nib32 (x : BitVec 32) : bits .and .u32 (uI x) 15 = ((x.toNat % 16 : Nat) : Int) := by
  have e : (15 : Int) = uI 15#32 := lit32 15 (by decide)
  have h : bits .and .u32 (uI x) (uI 15#32) = ((x.toNat % 16 : Nat) : Int) := by
    rw [and32, and15, uI_of _ (by omega)]
  rw [← e] at h
  exact h
theorem sh4 (x : BitVec 32) : uI x / (16 : Int) = uI (x >>> 4) := by have := shr32 x 4; simpa using this
theorem byX (c : BitVec 32) (b : Nat) (h : b < 256) : bits .xor .u32 (uI c) (b : Int) = uI (c ^^^ BitVec.ofNat 32 b) := by
  rw [← xor32, uI_of b (by omega)]
theorem stp_4 (c : BitVec 32) (b : Nat) : hbN 4 (hbN 4 (c ^^^ BitVec.ofNat 32 b)) = stp c b := by
  unfold stp; rw [← hbN_add]
def intOf13 : Value → Int | .int _ q => q | _ => 0
theorem crF_at {l : List Nat} {k : Nat} (hk : k < l.length) (C : BitVec 32) : crF C (l.drop k) = crF (stp C (l[k])) (l.drop (k + 1)) := by
  rw [List.drop_eq_getElem_cons hk, crF_cons]
theorem nibF {w : World} (hT : Hf w) (x : BitVec 32) : ∃ d : Nat, ∃ t : Int, d < 16 ∧ bits .and .u32 (uI x) 15 = (d : Int) ∧ w.cell? ⟨0, d, none⟩ = some (.int .u32 t) ∧ bits .xor .u32 (uI x / (16 : Int)) t = uI (hbN 4 x) := by
  refine ⟨x.toNat % 16, uI (cT (x.toNat % 16)), by omega, nib32 x, hT _ (by omega), ?_⟩
  rw [sh4, xor32, hb_four]
def AlI (l : List Nat) (ao : Option Addr) (cc : Nat) (c : BitVec 32) (a' : Act) : Prop := ∃ (k : Nat) (C : BitVec 32) (u6 u7 u8 u9 u10 u11 u12 u13 u14 u15 u16 u17 u18 u19 u20 u21 u22 u23 u24 u25 u26 u27 u28 u29 u30 u31 u32 u33 : Value), a' = { tmps := #[.int .u32 (uI C), .slice ao l.length cc, undef, undef, .int .u32 0, .int .i64 (k : Int), u6, u7, u8, u9, u10, u11, u12, u13, u14, u15, u16, u17, u18, u19, u20, u21, u22, u23, u24, u25, u26, u27, u28, u29, u30, u31, u32, u33], defers := [] } ∧ k ≤ l.length ∧ Hid (crF C (l.drop k) = crF c l)
theorem AlI.mk {l : List Nat} {ao : Option Addr} {cc : Nat} {c : BitVec 32} (k : Nat) (C : BitVec 32) (u6 u7 u8 u9 u10 u11 u12 u13 u14 u15 u16 u17 u18 u19 u20 u21 u22 u23 u24 u25 u26 u27 u28 u29 u30 u31 u32 u33 : Value) (hk : k ≤ l.length) (h : Hid (crF C (l.drop k) = crF c l)) : AlI l ao cc c { tmps := #[.int .u32 (uI C), .slice ao l.length cc, undef, undef, .int .u32 0, .int .i64 (k : Int), u6, u7, u8, u9, u10, u11, u12, u13, u14, u15, u16, u17, u18, u19, u20, u21, u22, u23, u24, u25, u26, u27, u28, u29, u30, u31, u32, u33], defers := [] } := ⟨k, C, u6, u7, u8, u9, u10, u11, u12, u13, u14, u15, u16, u17, u18, u19, u20, u21, u22, u23, u24, u25, u26, u27, u28, u29, u30, u31, u32, u33, rfl, hk, h⟩
def AlM (l : List Nat) (a' : Act) : Nat := l.length - (intOf13 (a'.tmps.getD 5 undef)).toNat
set_option maxRecDepth 1000000 in
set_option maxHeartbeats 8000000 in
theorem along_any (c : BitVec 32) (v : Value) (l : List Nat) (w : World) (hv : RwX cB w v l) (hl : l.length ≤ 9223372036854775806) (hb : ∀ b ∈ l, b < 256) (hT : Hf w) :
    Calls Tryd.prog 36 #[.int .u32 (uI c), v] w fun e w' => e = .returned (.int .u32 (uI (crF c l))) ∧ w' = w := by
  obtain ⟨ao, cc, rfl, hc, hv⟩ := hv
  have HV := hid13 hv
  have HT := hid13 hT
  have HB := hid13 hb
  have HL := hid13 hl
  clear hv hT hb hc hl
  go_enter Tryd.func36, Tryd.ntmps36
  go_wp2
  refine wp_scope_jumps 0 (fun a' w' => w' = w ∧ AlI l ao cc c a') (fun a' _ => AlM l a') rfl ?_ ?_
  · have HC : Hid (crF c (l.drop 0) = crF c l) := by show crF c (l.drop 0) = crF c l; simp
    by_cases hlt : 0 < l.length
    · have hne : ¬ ((0 : Int) = (l.length : Int)) := by omega
      obtain ⟨b, hb0⟩ : ∃ b, b = l[0]'hlt := ⟨_, rfl⟩
      have hb1 : b < 256 := HB.out b (by rw [hb0]; exact List.getElem_mem hlt)
      obtain ⟨bo, off, rfl, hcell⟩ : ∃ bo off, ao = some ⟨bo, off, none⟩ ∧ ∀ j x, l[j]? = some x → w.cell? ⟨bo, off + j, none⟩ = some (cB x) := by
        rcases HV.out with h | h
        · rw [h] at hlt; simp at hlt
        · exact h
      have hrd : w.cell? ⟨bo, off + 0, none⟩ = some (.int .u8 (b : Int)) := by
        have := hcell 0 b (by rw [hb0]; simp [hlt])
        exact this
      clear hcell HV
      have hx := byX c b hb1
      have HE : Hid (crF (hbN 4 (hbN 4 (c ^^^ BitVec.ofNat 32 b))) (l.drop (0 + 1)) = crF c l) := by
        show _ = _
        rw [stp_4, hb0, ← crF_at hlt]; exact HC.out
      obtain ⟨X, hX⟩ : ∃ X, X = c ^^^ BitVec.ofNat 32 b := ⟨_, rfl⟩
      rw [← hX] at hx HE
      obtain ⟨d, t, hd, f1, f2, f3⟩ := nibF HT.out X
      obtain ⟨Y, hY⟩ : ∃ Y, Y = hbN 4 X := ⟨_, rfl⟩
      rw [← hY] at f3 HE
      obtain ⟨d2, t2, hd2, g1, g2, g3⟩ := nibF HT.out Y
      have hd' : ((d : Nat) : Int) < 16 := by omega
      have hd2' : ((d2 : Nat) : Int) < 16 := by omega
      have hbi : ((b : Nat) : Int) < 256 := by omega
      have mk : IntKind.i64.wrap ((0 : Int) + 1) = (0 : Int) + 1 := by have := HL.out; rw [IntKind.wrap_i64]; omega
      have HLT := hid13 hlt
      have HB0 := hid13 hb0
      clear hX hY HC hb0
      rw [Nat.add_zero] at hrd
      clear mk
      go_wp2
      go_step3
      go_wp2
      go_step3
      exact ⟨rfl, rfl, AlI.mk 1 (hbN 4 Y) _ _ _ _ _ _ _ _ _ _ _ _ _ _ _ _ _ _ _ _ _ _ _ _ _ _ _ _ HLT.out HE⟩
    · have h0 : l = [] := List.eq_nil_of_length_eq_zero (by omega)
      subst h0
      go_wp2
      go_step3
      go_wp2
      simp only [Exit.jump]
      go_ret
      exact ⟨rfl, rfl⟩
  · rintro a' w' ⟨rfl, k, C, u6, u7, u8, u9, u10, u11, u12, u13, u14, u15, u16, u17, u18, u19, u20, u21, u22, u23, u24, u25, u26, u27, u28, u29, u30, u31, u32, u33, rfl, hk, HC⟩
    by_cases hlt : k < l.length
    · have hne : ¬ ((k : Int) = (l.length : Int)) := by omega
      obtain ⟨b, hb0⟩ : ∃ b, b = l[k]'hlt := ⟨_, rfl⟩
      have hb1 : b < 256 := HB.out b (by rw [hb0]; exact List.getElem_mem hlt)
      obtain ⟨bo, off, rfl, hcell⟩ : ∃ bo off, ao = some ⟨bo, off, none⟩ ∧ ∀ j x, l[j]? = some x → w'.cell? ⟨bo, off + j, none⟩ = some (cB x) := by
        rcases HV.out with h | h
        · rw [h] at hlt; simp at hlt
        · exact h
      have hrd : w'.cell? ⟨bo, off + k, none⟩ = some (.int .u8 (b : Int)) := by
        have := hcell k b (by rw [hb0]; simp [hlt])
        exact this
      clear hcell HV
      have hx := byX C b hb1
      have HE : Hid (crF (hbN 4 (hbN 4 (C ^^^ BitVec.ofNat 32 b))) (l.drop (k + 1)) = crF c l) := by
        show _ = _
        rw [stp_4, hb0, ← crF_at hlt]; exact HC.out
      obtain ⟨X, hX⟩ : ∃ X, X = C ^^^ BitVec.ofNat 32 b := ⟨_, rfl⟩
      rw [← hX] at hx HE
      obtain ⟨d, t, hd, f1, f2, f3⟩ := nibF HT.out X
      obtain ⟨Y, hY⟩ : ∃ Y, Y = hbN 4 X := ⟨_, rfl⟩
      rw [← hY] at f3 HE
      obtain ⟨d2, t2, hd2, g1, g2, g3⟩ := nibF HT.out Y
      have hd' : ((d : Nat) : Int) < 16 := by omega
      have hd2' : ((d2 : Nat) : Int) < 16 := by omega
      have hbi : ((b : Nat) : Int) < 256 := by omega
      have mk : IntKind.i64.wrap ((k : Int) + 1) = (k : Int) + 1 := by have := HL.out; rw [IntKind.wrap_i64]; omega
      have HLT := hid13 hlt
      have HB0 := hid13 hb0
      clear hX hY HC hb0
      go_wp2
      go_step3
      refine ⟨rfl, ⟨rfl, AlI.mk (k + 1) (hbN 4 Y) _ _ _ _ _ _ _ _ _ _ _ _ _ _ _ _ _ _ _ _ _ _ _ _ _ _ _ _ HLT.out HE⟩, ?_⟩
      show l.length - ((k : Int) + 1).toNat < l.length - (k : Int).toNat
      have := HLT.out
      omega
    · have hq : (k : Int) = (l.length : Int) := by omega
      have HE : Hid (C = crF c l) := by
        have := HC.out
        rw [List.drop_eq_nil_of_le (by omega), crF_nil] at this
        exact this
      go_wp2
      simp only [Exit.jump]
      go_ret
      exact ⟨by rw [← HE.out]; rfl, rfl⟩

theorem flat_at {P : List (Value × List Nat)} {k : Nat} (hk : k < P.length) (C : BitVec 32) : crF C ((P.drop k).map (·.2)).flatten = crF (crF C (P[k].2)) ((P.drop (k + 1)).map (·.2)).flatten := by
  rw [List.drop_eq_getElem_cons hk, List.map_cons, List.flatten_cons, crF_app]
theorem notU (x : BitVec 32) : bits .xor .u32 IntKind.u32.max (uI x) = uI (~~~ x) := by
  have e : IntKind.u32.max = uI (BitVec.allOnes 32) := by rw [uI_eq]; decide
  rw [e, xor32, not_xor]
set_option maxRecDepth 100000 in
set_option maxHeartbeats 8000000 in
theorem sum_any (v : Value) (P : List (Value × List Nat)) (w : World) (hv : RwX (fun p : Value × List Nat => p.1) w v P) (hP : ∀ p ∈ P, RwX cB w p.1 p.2 ∧ p.2.length ≤ 9223372036854775806 ∧ ∀ b ∈ p.2, b < 256) (hl : P.length ≤ 9223372036854775806) (hT : Hf w) :
    Calls Tryd.prog 18 #[v] w fun e w' => e = .returned (.int .u32 (uI (crS (P.map (·.2)).flatten))) ∧ w' = w := by
  obtain ⟨ao, cc, rfl, hc, hv⟩ := hv
  have HV := hid13 hv
  have HT := hid13 hT
  have HP := hid13 hP
  have HL := hid13 hl
  have hs : ¬ IntKind.u32.signed = true := by decide
  clear hv hT hP hc hl
  go_enter Tryd.func18, Tryd.ntmps18
  go_wp2_with fail
  go_loopg [3, 5, 8] P.length (fun g a b i wr => wr = w ∧ ∃ (k : Nat) (C : BitVec 32), k + g = P.length ∧ a = .int .u32 (uI C) ∧ i = .int .i64 (k : Int) ∧ Hid (crF C ((P.drop k).map (·.2)).flatten = crF (BitVec.allOnes 32) (P.map (·.2)).flatten))
  case atStart =>
    refine ⟨rfl, 0, BitVec.allOnes 32, by omega, ?_, rfl, rfl⟩
    exact congrArg (Value.int .u32) (by rw [uI_eq]; decide)
  case round =>
    obtain ⟨rfl, k, C, hk, rfl, rfl, HC⟩ := hrel
    by_cases hlt : k < P.length
    · have hli : (k : Int) < (P.length : Int) := by omega
      obtain ⟨bo, off, rfl, hcell⟩ : ∃ bo off, ao = some ⟨bo, off, none⟩ ∧ ∀ j x, P[j]? = some x → wr.cell? ⟨bo, off + j, none⟩ = some x.1 := by
        rcases HV.out with h | h
        · rw [h] at hlt; simp at hlt
        · exact h
      obtain ⟨q, hq⟩ : ∃ q, q = P[k] := ⟨_, rfl⟩
      have hrd : wr.cell? ⟨bo, off + k, none⟩ = some q.1 := hcell k q (by rw [hq]; simp [hlt])
      have hq2 := hid13 (HP.out q (by rw [hq]; exact List.getElem_mem hlt))
      have HE : Hid (crF (crF C q.2) ((P.drop (k + 1)).map (·.2)).flatten = crF (BitVec.allOnes 32) (P.map (·.2)).flatten) := by
        show _ = _
        rw [hq, ← flat_at hlt]; exact HC.out
      have mk : IntKind.i64.wrap ((k : Int) + 1) = (k : Int) + 1 := by have := HL.out; rw [IntKind.wrap_i64]; omega
      have HK := hid13 hk
      have HLT := hid13 hlt
      clear hq hcell HC hk
      obtain ⟨qv, ql⟩ := q
      go_wp2_with (go_at_call 36; refine (along_any C qv ql _ hq2.out.1 hq2.out.2.1 hq2.out.2.2 HT.out).mono ?_; rintro e w1 ⟨rfl, rfl⟩)
      go_roundg (gk - 1)
      case measure => have := HK.out; have := HLT.out; omega
      case rel => exact ⟨rfl, k + 1, _, by have := HK.out; have := HLT.out; omega, rfl, rfl, HE⟩
    · have hli : ¬ (k : Int) < (P.length : Int) := by omega
      have HE : Hid (~~~ C = crS (P.map (·.2)).flatten) := by
        have := HC.out
        rw [List.drop_eq_nil_of_le (by omega), List.map_nil, List.flatten_nil, crF_nil] at this
        show ~~~ C = crS _
        unfold crS
        rw [this]
      have hn := notU C
      go_wp2_with fail
      go_ret
      exact ⟨congrArg Ending.returned (congrArg (Value.int .u32) (by first | exact congrArg uI HE.out | (rw [← HE.out]; exact hn))), rfl⟩
end Go.Proofs.YthbdmdafldombaaDoor
namespace Go.Proofs.YthbdmdafldombaaDoor
open Go.RowKit
set_option linter.unusedSimpArgs false
set_option linter.unusedVariables false

theorem known_sum : crS [49, 50, 51, 52, 53, 54, 55, 56, 57] = 3808858755#32 := by decide +kernel
theorem known_U : fdU [(5 : Int), 5, 7, 5] 4 = [2952790016#32] := by decide +kernel
theorem known_R : fdR [(5 : Int), 5, 7, 5] 4 = [5, 7, 5] := by decide +kernel
theorem lit_rwx {α : Type} {f : α → Value} (w : World) (cs : Array Value) (T : TypeId) (fr : Nat × Nat) (l : List α) (h : cs.toList = l.map f) : RwX f (w.alloc (.cells cs T fr)) (.slice (some ⟨w.heap.size, 0, none⟩) l.length l.length) l := by
  refine ⟨_, _, rfl, Nat.le_refl _, .inr ⟨w.heap.size, 0, rfl, fun j x hj => ?_⟩⟩
  have e : (w.alloc (.cells cs T fr)).heap[w.heap.size]? = some (.cells cs T fr) := by
    show (w.heap.push _)[w.heap.size]? = _
    simp
  have hc : cs[j]? = some (f x) := by
    rw [← Array.getElem?_toList, h, List.getElem?_map, hj]; rfl
  rw [Nat.zero_add]
  rw [cell_of_row _ _ _ _ _ _ e]; exact hc
set_option maxRecDepth 100000 in
set_option maxHeartbeats 16000000 in
theorem known13 (w : World) (hT : Hf w) :
    Calls Tryd.prog 17 #[] w fun e w' => e = .returned (.bool true) ∧ Below w.heap.size w w' := by
  have HT := hid13 hT
  clear hT
  have q1 := bl1 w (.cells #[.int .i64 5, .int .i64 5, .int .i64 7, .int .i64 5] 3)
  have HB1 := hid13 q1
  have HV1 := hid13 (lit_rwx (f := cI) w #[.int .i64 5, .int .i64 5, .int .i64 7, .int .i64 5] 3 (0, 0) [5, 5, 7, 5] rfl)
  clear q1
  go_enter Tryd.func17, Tryd.ntmps17
  go_wp2_with fail
  refine (foldI_any _ [5, 5, 7, 5] _ HV1.out (by decide)).mono ?_
  rintro e w1 ⟨vf, rfl, hF⟩
  have hB : Below w.heap.size w w1 := keepb hF.b HB1.out
  rw [show ([5, 5, 7, 5] : List Int).length = 4 from rfl, known_U, known_R] at hF
  have hs1 : (w.alloc (.cells #[.int .i64 5, .int .i64 5, .int .i64 7, .int .i64 5] 3)).heap.size = w.heap.size + 1 := by simp
  rw [hs1, show (([5, 5, 7, 5] : List Int).length + 31) / 32 = 1 from rfl]
  have hm0 : w1.cell? ⟨w.heap.size + 1, 0, none⟩ = some (.int .u32 2952790016) := by
    have := (hF.cell 0 (by decide)).1
    rw [show ([2952790016#32] : List (BitVec 32)).getD (0 / 32) 0#32 = 2952790016#32 from rfl, uI_of 2952790016 (by decide)] at this
    rw [hs1] at this
    exact this
  obtain ⟨gf, cf, rfl, hr1⟩ : ∃ gf cf, vf = .slice (some ⟨gf, 0, none⟩) 3 cf ∧ w1.cell? ⟨gf, 1, none⟩ = some (.int .i64 7) := by
    have hr := hF.r
    rcases hr.2 with ⟨-, h⟩ | ⟨g, cap, cur, rfl, -⟩
    · cases h
    · exact ⟨g, cap, rfl, by rw [hr.cellAt 1 (by decide)]; rfl⟩
  have HT1 := hid13 (HT.out.below hB)
  have HB := hid13 hB
  clear hF hB HB1 HV1 hs1 HT
  have q2 := bl1 w1 (.cells #[.int .u8 49, .int .u8 50, .int .u8 51, .int .u8 52] 5 (4, 5))
  have r2 := lit_rwx (f := cB) w1 #[.int .u8 49, .int .u8 50, .int .u8 51, .int .u8 52] 5 (4, 5) [49, 50, 51, 52] rfl
  obtain ⟨w2, hw2⟩ : ∃ w2, w2 = w1.alloc (.cells #[.int .u8 49, .int .u8 50, .int .u8 51, .int .u8 52] 5 (4, 5)) := ⟨_, rfl⟩
  have e2 : w2.heap.size = w1.heap.size + 1 := by rw [hw2]; simp
  rw [← hw2] at q2 r2
  have q3 := bl1 w2 (.cells #[.int .u8 53, .int .u8 54, .int .u8 55, .int .u8 56, .int .u8 57] 5 (5, 6))
  have r3 := lit_rwx (f := cB) w2 #[.int .u8 53, .int .u8 54, .int .u8 55, .int .u8 56, .int .u8 57] 5 (5, 6) [53, 54, 55, 56, 57] rfl
  obtain ⟨w3, hw3⟩ : ∃ w3, w3 = w2.alloc (.cells #[.int .u8 53, .int .u8 54, .int .u8 55, .int .u8 56, .int .u8 57] 5 (5, 6)) := ⟨_, rfl⟩
  have e3 : w3.heap.size = w1.heap.size + 2 := by rw [hw3, ← Nat.add_right_comm w1.heap.size 1 1, ← e2]; simp
  rw [← hw3] at q3 r3
  rw [e2] at r3
  have q4 := bl1 w3 (.cells #[.slice (some ⟨w1.heap.size, 0, none⟩) 4 4, .slice (some ⟨w1.heap.size + 1, 0, none⟩) 5 5] 22)
  have r4 := lit_rwx (f := fun p : Value × List Nat => p.1) w3 #[.slice (some ⟨w1.heap.size, 0, none⟩) 4 4, .slice (some ⟨w1.heap.size + 1, 0, none⟩) 5 5] 22 (0, 0) [(.slice (some ⟨w1.heap.size, 0, none⟩) 4 4, [49, 50, 51, 52]), (.slice (some ⟨w1.heap.size + 1, 0, none⟩) 5 5, [53, 54, 55, 56, 57])] rfl
  rw [e3] at r4
  have HS := sum_any _ _ _ r4 (by
    intro p hp
    simp only [List.mem_cons, List.mem_nil_iff, or_false] at hp
    rcases hp with rfl | rfl
    · exact ⟨(r2.below q3).below q4, by show 4 ≤ _; decide, by show ∀ b ∈ [49, 50, 51, 52], b < 256; decide⟩
    · exact ⟨r3.below q4, by show 5 ≤ _; decide, by show ∀ b ∈ [53, 54, 55, 56, 57], b < 256; decide⟩) (by show 2 ≤ _; decide) (((HT1.out.below q2).below q3).below q4)
  have HB4 := hid13 (keepb q4 (keepb q3 (keepb q2 HB.out)))
  have hsum : uI (crS (([(.slice (some ⟨w1.heap.size, 0, none⟩) 4 4, [49, 50, 51, 52]), (.slice (some ⟨w1.heap.size + 1, 0, none⟩) 5 5, [53, 54, 55, 56, 57])] : List (Value × List Nat)).map (·.2)).flatten) = 3808858755 := by
    show uI (crS [49, 50, 51, 52, 53, 54, 55, 56, 57]) = 3808858755
    rw [known_sum, uI_of 3808858755 (by decide)]
    rfl
  rw [hsum] at HS
  have hm4 := keepc q4 (keepc q3 (keepc q2 hm0))
  have hr4 := keepc q4 (keepc q3 (keepc q2 hr1))
  rw [hw3, hw2] at HS HB4 hm4 hr4
  have HS' := hid13 HS
  have HM4 := hid13 hm4
  have HR4 := hid13 hr4
  clear q2 r2 q3 r3 q4 r4 HS hsum hm0 hr1 e2 e3 hw2 hw3 w2 w3 HB HT1 hm4 hr4
  have kc := fun (w : World) (C : Array Value) (n c : Nat) => Lib.run_convert_bytes_const (P := Tryd.prog) w 22 5 C n c Tryd.underlying22 Tryd.underlying5
  have kc2 := kc (w1.alloc (.cells #[.int .u8 49, .int .u8 50, .int .u8 51, .int .u8 52] 5 (4, 5))) #[.int .u8 53, .int .u8 54, .int .u8 55, .int .u8 56, .int .u8 57] 5 5
  rw [show (w1.alloc (.cells #[.int .u8 49, .int .u8 50, .int .u8 51, .int .u8 52] 5 (4, 5))).heap.size = w1.heap.size + 1 by simp] at kc2
  go_wp2_with fail
  refine HS'.out.mono ?_
  rintro e w5 ⟨rfl, hw5⟩
  rw [← hw5] at HM4 HR4 HB4
  have hm5 := HM4.out
  have hr5 := HR4.out
  clear HS' hw5 HM4 HR4 kc kc2
  go_wp2
  go_ret
  exact ⟨rfl, HB4.out⟩
end Go.Proofs.YthbdmdafldombaaDoor
namespace Go.Proofs.YthbdmdafldombaaDoor
open Go.RowKit
set_option linter.unusedSimpArgs false
set_option linter.unusedVariables false

theorem cU_one (l : List (BitVec 32)) : ∀ y ∈ l.map cU, y.oneCell' = true := by
  intro y hy
  obtain ⟨x, -, rfl⟩ := List.mem_map.1 hy
  rfl
theorem selR_form {U : List (BitVec 32)} {k : Int} {e : Ending} (h : SelR U k e) : ∃ A E : Int, e = .returned (.tuple #[.int .i64 A, .int .i64 E]) := by
  rcases h with ⟨-, -, p, h, -⟩ | ⟨-, h⟩
  · exact ⟨_, _, h⟩
  · exact ⟨_, _, h⟩
theorem selR_one {U : List (BitVec 32)} {k : Int} {e e' : Ending} (h : SelR U k e) (h' : SelR U k e') : e = e' := by
  rcases h with ⟨a, b, p, h, hp⟩ | ⟨n, h⟩ <;> rcases h' with ⟨a', b', p', h', hp'⟩ | ⟨n', h'⟩
  · have := sel_one U p p' hp.2.1 hp'.2.1 (hp.2.2.trans hp'.2.2.symm)
    rw [h, h', this]
  · exact absurd ⟨a, b⟩ n'
  · exact absurd ⟨a', b'⟩ n
  · rw [h, h']
set_option maxRecDepth 100000 in
set_option maxHeartbeats 8000000 in
theorem wireRanks_any (v : Value) (U : List (BitVec 32)) (i k : Int) (w : World) (hA : RowA w 1 v U.length (U.map cU)) (hv : RwX cU w v U) (hl : U.length * 4 ≤ 140737488351232) (hi0 : -9223372036854775808 ≤ i) (hi1 : i ≤ 9223372036854775807) (hk0 : -9223372036854775808 ≤ k) (hk1 : k ≤ 9223372036854775807) (hT : Hf w) :
    Calls Tryd.prog 6 #[v, .int .i64 i, .int .i64 k] w fun e w' => e = .returned (.bool true) ∧ Below w.heap.size w w' := by
  obtain ⟨i0, hi, hz0, hz1, hz2⟩ := info13 Tryd.infoU13
  have HT := hid13 hT
  have HA := hid13 hA
  have HV := hid13 hv
  have HL : Hid (U.length ≤ 100000000000000) := by show _ ≤ _; omega
  have HI := hid13 (And.intro (And.intro hi0 hi1) (And.intro hk0 hk1))
  obtain ⟨vo, vc, hvf, -⟩ := id hv
  have hlU : (U.length : Int) ≤ 35184372087808 := by omega
  clear hT hA hv hl hi0 hi1 hk0 hk1
  subst hvf
  go_enter Tryd.func6, Tryd.ntmps6
  go_wp2_with fail
  refine (known13 _ HT.out).mono ?_
  rintro e w1 ⟨rfl, hb1⟩
  have HB1 := hid13 hb1
  clear hb1 HT
  by_cases hbig : 3000 < U.length
  · have hbi : 3000 < (U.length : Int) := by omega
    go_wp2_with fail
    go_ret
    exact ⟨rfl, HB1.out⟩
  have hbi : ¬ 3000 < (U.length : Int) := by omega
  have HA1 := hid13 (HA.out.below HB1.out)
  have q2 := bl1 w1 (.cells #[] 23)
  have HO2 := hid13 (World.ownsRow_lit (base := w1.heap.size) (e := 23) (size := 1) w1 #[] 0 (Nat.le_refl _) (by unfold maxLen; omega) rfl)
  have HA2 := hid13 (HA1.out.below q2)
  have HB2 := hid13 (keepb q2 HB1.out)
  have HZ2 := hid13 q2.size
  have HB0 := hid13 HB1.out.size
  have h63 : 0 + U.length ≤ maxLen := by unfold maxLen; omega
  have h47 : (0 + U.length) * 4 ≤ 140737488355328 := by omega
  clear HA HA1 HB1 q2 hbig
  go_wp2_with (at_builtin; apply stopHere9)
  refine (show wpList _ _ _ _ _ _ from ?_)
  refine wpList_append_rowA rfl _ _ 47 rfl w1.heap.size 23 i0 (.int .u32 0) 1 4 Tryd.underlying47 hi hz0 hz1 hz2 rfl (by decide) _ 0 [] rfl HO2.out _ U.length (U.map cU) rfl HA2.out (cU_one U) h63 h47 HZ2.out ?_
  intro ao3 cap3 w3 hown3 hgrow
  rw [Nat.zero_add] at hown3 ⊢
  have HM3 := hid13 (own_rwx hown3)
  have HB3 := hid13 (HB2.out.grown hgrow HB2.out.size (fun z e => Nat.le_trans HB0.out (HO2.out.lt z e).1))
  clear hgrow hown3 HO2 HA2 HB2 HZ2 HB0 h63 h47 hbi
  go_wp2_with fail
  refine (rank_any _ U i w3 HM3.out HL.out HI.out.1.1 HI.out.1.2).mono ?_
  rintro e w4 ⟨rfl, hb4⟩
  obtain ⟨RN, hRN⟩ : ∃ r : Int, r = ((rkN U i : Nat) : Int) := ⟨_, rfl⟩
  obtain ⟨RE, hRE⟩ : ∃ r : Int, r = rkE U i := ⟨_, rfl⟩
  rw [← hRN, ← hRE]
  have HR : Hid (RN = ((rkN U i : Nat) : Int) ∧ RE = rkE U i) := ⟨hRN, hRE⟩
  have HM4 := hid13 (HM3.out.below hb4)
  have HB4 := hid13 (keepb hb4 HB3.out)
  clear hb4 HM3 HB3 hRN hRE
  go_wp2_with fail
  refine (select_any _ U k w4 HM4.out HL.out HI.out.2.1 HI.out.2.2).mono ?_
  rintro e w5 ⟨hS, hb5⟩
  obtain ⟨SA, SE, rfl⟩ := selR_form hS
  have HS := hid13 hS
  have HM5 := hid13 (HM4.out.below hb5)
  have HB5 := hid13 (keepb hb5 HB4.out)
  clear hb5 HM4 HB4 hS
  go_wp2_with fail
  refine (ones_any _ U w5 HM5.out HL.out).mono ?_
  rintro e w6 ⟨rfl, hb6⟩
  obtain ⟨ON, hON⟩ : ∃ r : Int, r = ((sumW U U.length : Nat) : Int) := ⟨_, rfl⟩
  rw [← hON]
  have HON := hid13 hON
  have HM6 := hid13 (HM5.out.below hb6)
  have HB6 := hid13 (keepb hb6 HB5.out)
  clear hb6 HM5 HB5 hON
  have KR := rrank13 _ U i w6 (HV.out.below HB6.out) HL.out HI.out.1.1 HI.out.1.2
  rw [← HR.out.1, ← HR.out.2] at KR
  go_wp2_with fail
  refine KR.mono ?_
  rintro e w7 ⟨rfl, hw7⟩
  replace hw7 := hw7.symm
  subst hw7
  clear KR
  go_wp2_with fail
  refine (rselect13 _ U k w6 (HV.out.below HB6.out) HL.out HI.out.2.1 HI.out.2.2).mono ?_
  rintro e w8 ⟨hS8, hw8⟩
  replace hw8 := hw8.symm
  subst hw8
  obtain rfl := selR_one HS.out hS8
  clear hS8
  go_wp2_with fail
  refine (same32_any _ _ U w6 HM6.out (HV.out.below HB6.out) (by have := HL.out; omega)).mono ?_
  rintro e w9 ⟨rfl, hb9⟩
  have HB9 := hid13 (keepb hb9 HB6.out)
  clear hb9 HM6 HB6
  have KO := rones13 _ U w9 (HV.out.below HB9.out) HL.out
  rw [← HON.out] at KO
  go_wp2_with fail
  refine KO.mono ?_
  rintro e w10 ⟨rfl, hw10⟩
  replace hw10 := hw10.symm
  subst hw10
  clear KO
  go_wp2
  go_ret
  exact ⟨rfl, HB9.out⟩
end Go.Proofs.YthbdmdafldombaaDoor
