/-
  Part 14 of the proof: 6 texts, one behind the other.
-/
import Derived.Test.YtkchalaicmanfabPart13
import Derived.Test.YtkchalaicmanfabPart4
import Derived.Test.YtkchalaicmanfabPart3
namespace Go.Proofs.Ytkchalaicmanfab
open Go.RowKit Go.Shelf
set_option linter.unusedSimpArgs false
set_option linter.unusedVariables false
attribute [local go_sem] Oper.semAt_some

def knL : List Nde := [⟨1, [⟨0#128, false, 5⟩, ⟨1#128, false, 0⟩]⟩]
theorem kn_E : codE 32 knL 1000 = 0 := by decide +kernel
theorem kn_B : codB 32 knL 1000 = [1, 0, 0, 1, 2, 0, 0, 1, 192, 0, 0, 0, 4, 0, 0, 5, 4, 0, 0, 0] := by decide +kernel
set_option maxRecDepth 20000 in
set_option maxHeartbeats 8000000 in
theorem known16 (w : World) :
    Calls Try.prog 5 #[] w fun e w' => e = .returned (.bool true) ∧ Below w.heap.size w w' := by
  have hb1 : Below w.heap.size w ((w.alloc (.cells #[.int .u64 0, .int .u64 0, .bool false, .int .i64 5, .int .u64 0, .int .u64 1, .bool false, .int .i64 0] 39)).alloc (.cells #[.int .i64 1, .slice (some ⟨w.heap.size, 0, none⟩) 2 2] 42)) := bl2 w _ _
  have hI1 : hI 1#128 = 0 := by decide +kernel
  have lI1 : lI 1#128 = 1 := by decide +kernel
  have hv : RwD ((w.alloc (.cells #[.int .u64 0, .int .u64 0, .bool false, .int .i64 5, .int .u64 0, .int .u64 1, .bool false, .int .i64 0] 39)).alloc (.cells #[.int .i64 1, .slice (some ⟨w.heap.size, 0, none⟩) 2 2] 42)) (.slice (some ⟨w.heap.size + 1, 0, none⟩) 1 1) knL := by
    refine ⟨_, 1, rfl, Nat.le_refl _, .inr ⟨w.heap.size + 1, 0, rfl, fun j d hj => ?_⟩⟩
    cases j with
    | succ j => simp [knL] at hj
    | zero =>
      simp [knL] at hj
      subst hj
      refine ⟨.slice (some ⟨w.heap.size, 0, none⟩) 2 2, by simp [go_sem], by simp [go_sem], _, 2, rfl, Nat.le_refl _, .inr ⟨w.heap.size, 0, rfl, fun j r hj => ?_⟩⟩
      match j, hj with
      | 0, hj =>
        simp at hj
        subst hj
        unfold RnAt
        rw [hI_zero, lI_zero]
        refine ⟨?_, ?_, ?_, ?_⟩ <;> simp [go_sem]
      | 1, hj =>
        simp at hj
        subst hj
        unfold RnAt
        rw [hI1, lI1]
        refine ⟨?_, ?_, ?_, ?_⟩ <;> simp [go_sem]
      | j + 2, hj => simp at hj
  have KC := code_any 32 _ knL 1000 _ hv (by decide) (by decide)
  rw [kn_E, kn_B] at KC
  have HB1 := hid13 hb1
  clear hv hb1 hI1 lI1
  go_enter Try.func5, Try.ntmps5
  go_wp2_with fail
  refine KC.mono ?_
  rintro e w2 ⟨v', rfl, ho, hb⟩
  have HB2 := hid13 (keepb hb HB1.out)
  have hc := conv13 (l := [1, 0, 0, 1, 2, 0, 0, 1, 192, 0, 0, 0, 4, 0, 0, 5, 4, 0, 0, 0]) (own_rwx ho) (by decide)
  have hs : bsA [1, 0, 0, 1, 2, 0, 0, 1, 192, 0, 0, 0, 4, 0, 0, 5, 4, 0, 0, 0] = ⟨#[1, 0, 0, 1, 2, 0, 0, 1, 192, 0, 0, 0, 4, 0, 0, 5, 4, 0, 0, 0]⟩ := rfl
  rw [hs] at hc
  clear KC ho hb HB1
  go_wp2
  exact bodyPost_ret (v := .bool true) (by simp [results, Try.results5, go_sem]) rfl ⟨rfl, HB2.out⟩
end Go.Proofs.Ytkchalaicmanfab
namespace Go.Proofs.Ytkchalaicmanfab
open Go.RowKit
set_option linter.unusedSimpArgs false
set_option linter.unusedVariables false
attribute [local go_sem] Oper.semAt_some

def fwN : List Nde → Nat
  | [] => 0
  | d :: L => 1 + d.r.length + fwN L
theorem fw_take (L : List Nde) (k : Nat) (h : k < L.length) : fwN (L.take (k + 1)) = fwN (L.take k) + 1 + L[k].r.length := by
  induction L generalizing k with
  | nil => simp at h
  | cons d L ih =>
    cases k with
    | zero => simp [fwN]
    | succ k =>
      simp only [List.take_succ_cons, fwN, List.getElem_cons_succ]
      rw [ih k (by simpa using h)]
      omega
theorem fw_mem {L : List Nde} {d : Nde} (h : d ∈ L) : d.r.length < fwN L := by
  induction L with
  | nil => cases h
  | cons e L ih =>
    rcases List.mem_cons.mp h with h | h
    · subst h; simp only [fwN]; omega
    · have := ih h; simp only [fwN]; omega
theorem fw_le {L : List Nde} {K : Nat} (hr : ∀ d ∈ L, d.r.length ≤ K) : ∀ k, fwN (L.take k) ≤ k * (K + 1)
  | 0 => by simp [fwN]
  | k + 1 => by
    have ih := fw_le hr k
    rw [Nat.succ_mul]
    by_cases h : k < L.length
    · rw [fw_take L k h]
      have := hr _ (List.getElem_mem h)
      omega
    · rw [List.take_of_length_le (by omega)]
      rw [List.take_of_length_le (by omega)] at ih
      omega
def fewB (L : List Nde) : Bool := decide (L.length < 500) && decide (fwN (L.take 500) < 5000)
theorem few_ok {L : List Nde} (h : fewB L = true) : L.length < 500 ∧ ∀ d ∈ L, d.r.length < 5000 := by
  unfold fewB at h
  simp only [Bool.and_eq_true, decide_eq_true_eq] at h
  rw [List.take_of_length_le (by omega)] at h
  exact ⟨h.1, fun d hd => by have := fw_mem hd; omega⟩
set_option maxRecDepth 20000 in
set_option maxHeartbeats 4000000 in
theorem few_any (v : Value) (L : List Nde) (w : World) (hv : RwD w v L) (hl : L.length ≤ 140737488355328) (hr : ∀ d ∈ L, d.r.length ≤ 140737488355328) :
    Calls Try.prog 10 #[v] w fun e w' => e = .returned (.bool (fewB L)) ∧ w' = w := by
  obtain ⟨ao, c, rfl, hc, hrow⟩ := hv
  have HC := hid13 hrow
  have HL : Hid (L.length ≤ 140737488355328 ∧ ∀ d ∈ L, d.r.length ≤ 140737488355328) := ⟨hl, hr⟩
  have hl' : (L.length : Int) ≤ 140737488355328 := by omega
  have HF : Hid (fewB L = (decide (L.length < 500) && decide (fwN (L.take 500) < 5000))) := rfl
  generalize fewB L = fb at *
  clear hr hrow hl
  go_enter Try.func10, Try.ntmps10
  go_wp2_with fail
  go_loopw [3, 4] (fun nv kv wr => ∃ k n : Nat, k ≤ L.length ∧ k ≤ 500 ∧ nv = .int .i64 n ∧ kv = .int .i64 k ∧ Hid (n = fwN (L.take k)) ∧ wr = w) (fun _ kv _ => L.length - (intOf kv).toNat)
  case atStart => exact ⟨0, 0, by omega, by omega, rfl, rfl, (rfl : 0 = fwN (L.take 0)), rfl⟩
  case round =>
    obtain ⟨k, n, hk, hk5, rfl, rfl, hN, rfl⟩ := hrel
    have hnb : n ≤ 70368744177664500 := by
      have h1 := fw_le HL.out.2 k
      rw [← hN.out] at h1
      have h2 := Nat.mul_le_mul_right (140737488355328 + 1) hk5
      exact Nat.le_trans h1 (Nat.le_trans h2 (by decide))
    by_cases hlt : (k : Int) < (L.length : Int)
    · by_cases h5 : (k : Int) < 500
      · have hks : k < L.length := by omega
        obtain ⟨b, off, rfl, hcell⟩ := HC.out.resolve_left (by rintro rfl; simp at hks)
        obtain ⟨vr, x0, x1, hR⟩ := hcell k _ (List.getElem?_eq_getElem hks)
        have hrk := HL.out.2 _ (List.getElem_mem hks)
        obtain ⟨vo, vc, hvr, -, -⟩ := hR
        subst hvr
        have ht := fw_take L k hks
        generalize L[k].r.length = m at *
        have m1 : wrap64 ((n : Int) + 1) = (n : Int) + 1 := by unfold wrap64; omega
        have m2 : wrap64 ((n : Int) + 1 + (m : Int)) = (n : Int) + 1 + (m : Int) := by unfold wrap64; omega
        have m3 : wrap64 ((k : Int) + 1) = (k : Int) + 1 := by unfold wrap64; omega
        clear hcell x0
        go_wp2
        go_roundw
        case rel => exact ⟨k + 1, n + 1 + m, by omega, by omega, by push_cast; rfl, by push_cast; rfl, (by rw [ht, ← hN.out] : n + 1 + m = fwN (L.take (k + 1))), trivial⟩
        case measure => first | (simp [intOf]; omega) | (unfold intOf; simp; omega)
      · have hl5 : ¬ (L.length : Int) < 500 := by omega
        have hfb : fb = false := by rw [HF.out]; simp; omega
        subst hfb
        clear HC
        go_wp2
        go_ret
        exact ⟨rfl, rfl⟩
    · have hke : k = L.length := by omega
      subst hke
      by_cases h5 : (L.length : Int) < 500
      · have h5' : L.length < 500 := by omega
        have hF2 := HF.out
        have hN2 := hN.out
        rw [List.take_of_length_le (Nat.le_refl _)] at hN2
        rw [List.take_of_length_le (Nat.le_of_lt h5'), ← hN2] at hF2
        by_cases hn : (n : Int) < 5000
        · have hfb : fb = true := by rw [hF2]; simp; omega
          subst hfb
          clear HC hF2 hN2 HF hN
          go_wp2
          go_ret
          exact ⟨rfl, rfl⟩
        · have hfb : fb = false := by rw [hF2]; simp; omega
          subst hfb
          clear HC hF2 hN2 HF hN
          go_wp2
          go_ret
          exact ⟨rfl, rfl⟩
      · have hfb : fb = false := by rw [HF.out]; simp; omega
        subst hfb
        clear HC
        go_wp2
        go_ret
        exact ⟨rfl, rfl⟩
end Go.Proofs.Ytkchalaicmanfab
namespace Go.Proofs.Ytkchalaicmanfab
open Go.RowKit
set_option linter.unusedSimpArgs false
set_option linter.unusedVariables false
attribute [local go_sem] Oper.semAt_some

set_option maxRecDepth 20000 in
set_option maxHeartbeats 8000000 in
theorem small_any (v : Value) (L : List Nde) (w : World) (hv : RwD w v L) (hl : L.length ≤ 140737488355328) (hr : ∀ d ∈ L, d.r.length ≤ 140737488355328) :
    Calls Try.prog 6 #[v] w fun e w' => ∃ t, e = .returned (.bool t) ∧ (t = true → fewB L = true) ∧ w' = w := by
  have KF := few_any v L w hv hl hr
  obtain ⟨ao, c, rfl, hc, hrow⟩ := hv
  have HC := hid13 hrow
  have HF : Hid (fewB L = fewB L) := rfl
  have hl' : (L.length : Int) ≤ 140737488355328 := by omega
  generalize fewB L = fb at *
  clear hr hrow hl HF
  go_enter Try.func6, Try.ntmps6
  go_wp2_with fail
  go_loopw [3, 4] (fun nv kv wr => ∃ k n : Nat, k ≤ L.length ∧ k ≤ 500 ∧ nv = .int .i64 n ∧ kv = .int .i64 k ∧ n ≤ 20 * k ∧ wr = w) (fun _ kv _ => L.length - (intOf kv).toNat)
  case atStart => exact ⟨0, 0, by omega, by omega, rfl, rfl, by omega, rfl⟩
  case round =>
    obtain ⟨k, n, hk, hk5, rfl, rfl, hN, rfl⟩ := hrel
    have done : ∀ (Q : Unit → Prop), True := fun _ => trivial
    clear done
    by_cases hlt : (k : Int) < (L.length : Int)
    · by_cases h5 : (k : Int) < 500
      · have hks : k < L.length := by omega
        obtain ⟨b, off, rfl, hcell⟩ := HC.out.resolve_left (by rintro rfl; simp at hks)
        obtain ⟨vr, x0, x1, hR⟩ := hcell k _ (List.getElem?_eq_getElem hks)
        generalize L[k].b = m at *
        have m1 : wrap64 ((n : Int) + 20) = (n : Int) + 20 := by unfold wrap64; omega
        have m3 : wrap64 ((k : Int) + 1) = (k : Int) + 1 := by unfold wrap64; omega
        clear hcell x1 hR KF
        by_cases h16 : 16 < m
        · by_cases h24 : m ≤ 24
          · go_wp2
            go_roundw
            case rel => exact ⟨k + 1, n + 20, by omega, by omega, by push_cast; rfl, by push_cast; rfl, by omega, trivial⟩
            case measure => first | (simp [intOf]; omega) | (unfold intOf; simp; omega)
          · go_wp2
            go_roundw
            case rel => exact ⟨k + 1, n, by omega, by omega, by push_cast; rfl, by push_cast; rfl, by omega, trivial⟩
            case measure => first | (simp [intOf]; omega) | (unfold intOf; simp; omega)
        · go_wp2
          go_roundw
          case rel => exact ⟨k + 1, n, by omega, by omega, by push_cast; rfl, by push_cast; rfl, by omega, trivial⟩
          case measure => first | (simp [intOf]; omega) | (unfold intOf; simp; omega)
      · clear HC
        go_wp2_with fail
        refine KF.mono ?_
        rintro e w2 ⟨rfl, hw⟩
        subst hw
        cases fb with
        | false =>
          go_wp2
          go_ret
          first | exact ⟨_, rfl, by simp, rfl⟩ | (simp; done) | (simp; omega)
        | true =>
          by_cases hn : (n : Int) ≤ 60
          · go_wp2
            go_ret
            first | exact ⟨_, rfl, by simp, rfl⟩ | (simp; done) | (simp; omega)
          · go_wp2
            go_ret
            first | exact ⟨_, rfl, by simp, rfl⟩ | (simp; done) | (simp; omega)
    · clear HC
      go_wp2_with fail
      refine KF.mono ?_
      rintro e w2 ⟨rfl, hw⟩
      subst hw
      cases fb with
      | false =>
        go_wp2
        go_ret
        first | exact ⟨_, rfl, by simp, rfl⟩ | (simp; done) | (simp; omega)
      | true =>
        by_cases hn : (n : Int) ≤ 60
        · go_wp2
          go_ret
          first | exact ⟨_, rfl, by simp, rfl⟩ | (simp; done) | (simp; omega)
        · go_wp2
          go_ret
          first | exact ⟨_, rfl, by simp, rfl⟩ | (simp; done) | (simp; omega)
end Go.Proofs.Ytkchalaicmanfab
namespace Go.Proofs.Ytkchalaicmanfab
open Go.RowKit Go.Shelf
set_option linter.unusedSimpArgs false
set_option linter.unusedVariables false
attribute [local go_sem] Oper.semAt_some

theorem wdB_lt (o k : Nat) (m : List (BitVec 32)) : ∀ b ∈ wdB o k m, b < 256 := by
  intro b hb
  unfold wdB at hb
  obtain ⟨x, -, hx⟩ := List.mem_flatMap.mp hb
  exact by4_lt _ x.isLt b hx
theorem rnB_lt (P : List Int) : ∀ (l : List Rn) (p : Nat), ∀ b ∈ rnB P p l, b < 256
  | [], p, b, h => by cases h
  | r :: l, p, b, h => by
    rcases List.mem_append.mp h with h | h
    · exact wdB_lt _ _ _ b h
    · exact rnB_lt P l _ b h
theorem ndB_lt (P : List Int) (a : Nat) (d : Nde) : ∀ b ∈ ndB P a d, b < 256 := by
  intro b h
  unfold ndB at h
  split at h
  · exact rnB_lt _ _ _ b h
  · rcases List.mem_append.mp h with h | h
    · exact wdB_lt _ _ _ b h
    · rcases List.mem_append.mp h with h | h
      · exact wdB_lt _ _ _ b h
      · exact rnB_lt _ _ _ b h
theorem lyB_lt (L : List Nde) (P : List Int) : ∀ (o : List Int) (a : Nat), ∀ b ∈ lyB L P a o, b < 256
  | [], a, b, h => by cases h
  | k :: o, a, b, h => by
    rcases List.mem_append.mp h with h | h
    · exact ndB_lt _ _ _ b h
    · exact lyB_lt L P o _ b h
theorem codB_lt (F : Int) (L : List Nde) (most : Int) : ∀ b ∈ codB F L most, b < 256 := by
  unfold codB
  split
  · exact lyB_lt _ _ _ _
  · intro b h; cases h
theorem cod_len {F : Int} {L : List Nde} {most : Int} (h : codE F L most = 0) : (codB F L most).length ≤ 4194304 ∧ ((codB F L most).length : Int) ≤ most ∧
    (∀ m, ((codB F L most).length : Int) ≤ m → codE F L m = 0 ∧ codB F L m = codB F L most) ∧ (∀ m, m < ((codB F L most).length : Int) → codE F L m = 18 ∧ codB F L m = []) := by
  have h' := h
  unfold codE at h
  by_cases h0 : (layR F L).2 = 0
  · rw [if_pos h0] at h
    by_cases hc : min most 4194304 < 4 * ((layR F L).1.2.2 : Int)
    · rw [if_pos hc] at h; cases h
    · obtain ⟨ok, hck, hpl, hoo⟩ := lay_zero h0
      obtain ⟨hlo, hws⟩ := lay_ok ok hpl (by omega)
      rw [← hoo] at hlo hws
      have hB : codB F L most = lyB L (layR F L).1.2.1 0 (layR F L).1.1 := by unfold codB; rw [if_pos h']
      have hlen := lyB_len hlo
      rw [← hB, hws] at hlen
      refine ⟨by omega, by omega, fun m hm => ?_, fun m hm => ?_⟩
      · have e : codE F L m = 0 := by unfold codE; rw [if_pos h0, if_neg (by omega)]
        exact ⟨e, by rw [hB]; unfold codB; rw [if_pos e]⟩
      · have e : codE F L m = 18 := by unfold codE; rw [if_pos h0, if_pos (by omega)]
        exact ⟨e, by unfold codB; rw [if_neg (by omega)]⟩
  · rw [if_neg h0] at h; exact absurd h h0
end Go.Proofs.Ytkchalaicmanfab
namespace Go.Proofs.Ytkchalaicmanfab
open Go.RowKit
set_option linter.unusedSimpArgs false
set_option linter.unusedVariables false
attribute [local go_sem] Oper.semAt_some

set_option maxRecDepth 100000 in
set_option maxHeartbeats 8000000 in
theorem sameInts_any16 (v1 v2 : Value) (l : List Int) (w : World) (h1 : RwX cI w v1 l) (h2 : RwX cI w v2 l) (hl : l.length ≤ 9223372036854775806) :
    Calls Try.prog 9 #[v1, v2] w fun e w' => e = .returned (.bool true) ∧ Below w.heap.size w w' := by
  obtain ⟨ao, cc, rfl, -, hv1⟩ := h1
  obtain ⟨ao2, cc2, rfl, -, hv2⟩ := h2
  have HV1 := hid13 hv1
  have HV2 := hid13 hv2
  have HL := hid13 hl
  have HB := hid13 (Below.refl w.heap.size w)
  clear hv1 hv2 hl
  go_enter Try.func9, Try.ntmps9
  go_wp2_with fail
  go_loopg [5] l.length (fun g i wr => ∃ k : Nat, k + g = l.length ∧ i = .int .i64 (k : Int) ∧ Hid (Below w.heap.size w wr))
  case atStart => exact ⟨0, by omega, rfl, HB⟩
  case round =>
    clear HB
    obtain ⟨k, hk, rfl, HB⟩ := hrel
    by_cases hlt : k < l.length
    · have hli : (k : Int) < (l.length : Int) := by omega
      obtain ⟨bo, off, rfl, hc1⟩ : ∃ bo off, ao = some ⟨bo, off, none⟩ ∧ ∀ j x, l[j]? = some x → w.cell? ⟨bo, off + j, none⟩ = some (cI x) := by
        rcases HV1.out with h | h
        · rw [h] at hlt; simp at hlt
        · exact h
      obtain ⟨bo2, off2, rfl, hc2⟩ : ∃ bo off, ao2 = some ⟨bo, off, none⟩ ∧ ∀ j x, l[j]? = some x → w.cell? ⟨bo, off + j, none⟩ = some (cI x) := by
        rcases HV2.out with h | h
        · rw [h] at hlt; simp at hlt
        · exact h
      obtain ⟨x, hx⟩ : ∃ x, l[k]? = some x := ⟨l[k], by simp [hlt]⟩
      have r1 : wr.cell? ⟨bo, off + k, none⟩ = some (.int .i64 x) := keepc HB.out (hc1 k x hx)
      have r2 : wr.cell? ⟨bo2, off2 + k, none⟩ = some (.int .i64 x) := keepc HB.out (hc2 k x hx)
      have mk : IntKind.i64.wrap ((k : Int) + 1) = (k : Int) + 1 := by have := HL.out; rw [IntKind.wrap_i64]; omega
      have HK : Hid (k + gk = l.length ∧ k < l.length) := ⟨hk, hlt⟩
      have HB2 := hid13 HB.out.drew
      clear hc1 hc2 hx hk
      go_wp2_with fail
      go_region
      go_wp2
      go_roundg (gk - 1)
      case measure => have := HK.out; omega
      case rel => exact ⟨k + 1, by have := HK.out; omega, rfl, HB2⟩
    · have hli : ¬ (k : Int) < (l.length : Int) := by omega
      go_wp2_with fail
      go_ret
      exact ⟨rfl, HB.out⟩
end Go.Proofs.Ytkchalaicmanfab
namespace Go.Proofs.Ytkchalaicmanfab
open Go.RowKit Go.Shelf
set_option linter.unusedSimpArgs false
set_option linter.unusedVariables false
attribute [local go_sem] Oper.semAt_some

theorem own_other16 {W W' : World} {base e size n : Nat} {v : Value} {xs : List Value} (h : W.ownsRow base e size v n xs) (hk : ∀ z, v.ownBlock = some z → W'.heap[z]? = W.heap[z]?) : W'.ownsRow base e size v n xs := by
  refine ⟨h.1, ?_⟩
  rcases h.2 with h1 | ⟨g, cap, cur, e, h1, h2, h3⟩
  · exact .inl h1
  · exact .inr ⟨g, cap, cur, e, h1, (hk g (by rw [e]; rfl)).trans h2, h3⟩
structure EoW (w V0 W : World) (x1 x2 y1 y2 : Nat) (va vc : Value) (A : List Nat) (C : List Int) : Prop where
  b : Below w.heap.size w W
  k : ∀ z ob, V0.heap[z]? = some ob → (z < x1 ∨ x2 ≤ z) → (z < y1 ∨ y2 ≤ z) → W.heap[z]? = some ob
  s : V0.heap.size ≤ W.heap.size
  a : W.ownsRow x1 5 1 va A.length (A.map cB)
  c : W.ownsRow y1 3 1 vc C.length (C.map cI)
  na : ∀ z, va.ownBlock = some z → (x1 ≤ z ∧ z < x2) ∨ V0.heap.size ≤ z
  nc : ∀ z, vc.ownBlock = some z → (y1 ≤ z ∧ z < y2) ∨ V0.heap.size ≤ z
  d : ∀ z, va.ownBlock = some z → vc.ownBlock = some z → False
  x : w.heap.size ≤ x1 ∧ x1 ≤ x2 ∧ x2 ≤ y1 ∧ y1 ≤ y2 ∧ y2 ≤ V0.heap.size
section
variable {w V0 W W' : World} {x1 x2 y1 y2 : Nat} {va vc v' : Value} {A A' : List Nat} {C C' : List Int}
theorem EoW.below (h : EoW w V0 W x1 x2 y1 y2 va vc A C) (hb : Below W.heap.size W W') : EoW w V0 W' x1 x2 y1 y2 va vc A C :=
  ⟨keepb hb h.b, fun z ob h1 h2 h3 => (hb.block z (Array.getElem?_eq_some_iff.1 (h.k z ob h1 h2 h3)).1).trans (h.k z ob h1 h2 h3), Nat.le_trans h.s hb.size, own_b13 hb h.a, own_b13 hb h.c, h.na, h.nc, h.d, h.x⟩
theorem EoW.storeA {g cap j : Nat} (h : EoW w V0 W x1 x2 y1 y2 (.slice (some ⟨g, 0, none⟩) A.length cap) vc A C) (x : Nat) : EoW w V0 (W.setCell ⟨g, j, none⟩ (cB x)) x1 x2 y1 y2 (.slice (some ⟨g, 0, none⟩) (A.set j x).length cap) vc (A.set j x) C := by
  have hg := (h.a.lt g rfl).1
  have hn := h.na g rfl
  have hx := h.x
  have ho : ∀ z, z ≠ g → (W.setCell ⟨g, j, none⟩ (cB x)).heap[z]? = W.heap[z]? := fun z hz => Below.heap_setCell W ⟨g, j, none⟩ (cB x) z hz
  refine ⟨h.b.setCell (p := ⟨g, j, none⟩) (by show w.heap.size ≤ g; omega) _, fun z ob h1 h2 h3 => ?_, by simp [World.setCell]; exact h.s, ?_, own_other16 h.c (fun z hz => ho z (by rintro rfl; exact h.d z rfl hz)), fun z hz => h.na z hz, h.nc, fun z hz => h.d z hz, h.x⟩
  · have hz : z < V0.heap.size := (Array.getElem?_eq_some_iff.1 h1).1
    exact (ho z (by omega)).trans (h.k z ob h1 h2 h3)
  · have := (h.a.stored j (cB x)).1
    rw [List.length_set, List.map_set]
    exact this
theorem EoW.storeC {g cap j : Nat} (h : EoW w V0 W x1 x2 y1 y2 va (.slice (some ⟨g, 0, none⟩) C.length cap) A C) (x : Int) : EoW w V0 (W.setCell ⟨g, j, none⟩ (cI x)) x1 x2 y1 y2 va (.slice (some ⟨g, 0, none⟩) (C.set j x).length cap) A (C.set j x) := by
  have hg := (h.c.lt g rfl).1
  have hn := h.nc g rfl
  have hx := h.x
  have ho : ∀ z, z ≠ g → (W.setCell ⟨g, j, none⟩ (cI x)).heap[z]? = W.heap[z]? := fun z hz => Below.heap_setCell W ⟨g, j, none⟩ (cI x) z hz
  refine ⟨h.b.setCell (p := ⟨g, j, none⟩) (by show w.heap.size ≤ g; omega) _, fun z ob h1 h2 h3 => ?_, by simp [World.setCell]; exact h.s, own_other16 h.a (fun z hz => ho z (by rintro rfl; exact h.d z hz rfl)), ?_, h.na, fun z hz => h.nc z hz, fun z hz h2 => h.d z hz h2, h.x⟩
  · have hz : z < V0.heap.size := (Array.getElem?_eq_some_iff.1 h1).1
    exact (ho z (by omega)).trans (h.k z ob h1 h2 h3)
  · have := (h.c.stored j (cI x)).1
    rw [List.length_set, List.map_set]
    exact this
theorem EoW.appA (h : EoW w V0 W x1 x2 y1 y2 va vc A C) (ho : W'.ownsRow x1 5 1 v' A'.length (A'.map cB)) (hg : W.grownBy W' va.ownBlock) (hat : ∀ z, v'.ownBlock = some z → va.ownBlock = some z ∨ z = W.heap.size) : EoW w V0 W' x1 x2 y1 y2 v' vc A' C := by
  have hx := h.x
  refine ⟨h.b.grown hg (by have := h.s; omega) (fun z e => Nat.le_trans hx.1 (h.a.lt z e).1), fun z ob h1 h2 h3 => ?_, Nat.le_trans h.s hg.size, ho, own_other16 h.c (fun z hz => hg.block z (h.c.lt z hz).2 (fun e => h.d z e.symm hz)), fun z hz => ?_, h.nc, fun z h1 h2 => ?_, h.x⟩
  · have hz : z < V0.heap.size := (Array.getElem?_eq_some_iff.1 h1).1
    have hw := h.k z ob h1 h2 h3
    refine (hg.block z (Array.getElem?_eq_some_iff.1 hw).1 (fun e => ?_)).trans hw
    have := h.na z e.symm
    omega
  · rcases hat z hz with q | q
    · exact h.na z q
    · exact .inr (by rw [q]; exact h.s)
  · rcases hat z h1 with q | q
    · exact h.d z q h2
    · have := (h.c.lt z h2).2; omega
theorem EoW.appC (h : EoW w V0 W x1 x2 y1 y2 va vc A C) (ho : W'.ownsRow y1 3 1 v' C'.length (C'.map cI)) (hg : W.grownBy W' vc.ownBlock) (hat : ∀ z, v'.ownBlock = some z → vc.ownBlock = some z ∨ z = W.heap.size) : EoW w V0 W' x1 x2 y1 y2 va v' A C' := by
  have hx := h.x
  refine ⟨h.b.grown hg (by have := h.s; omega) (fun z e => Nat.le_trans (by omega) (h.c.lt z e).1), fun z ob h1 h2 h3 => ?_, Nat.le_trans h.s hg.size, own_other16 h.a (fun z hz => hg.block z (h.a.lt z hz).2 (fun e => h.d z hz e.symm)), ho, h.na, fun z hz => ?_, fun z h1 h2 => ?_, h.x⟩
  · have hz : z < V0.heap.size := (Array.getElem?_eq_some_iff.1 h1).1
    have hw := h.k z ob h1 h2 h3
    refine (hg.block z (Array.getElem?_eq_some_iff.1 hw).1 (fun e => ?_)).trans hw
    have := h.nc z e.symm
    omega
  · rcases hat z hz with q | q
    · exact h.nc z q
    · exact .inr (by rw [q]; exact h.s)
  · rcases hat z h2 with q | q
    · exact h.d z h1 q
    · have := (h.a.lt z h1).2; omega
theorem EoW.row (h : EoW w V0 W x1 x2 y1 y2 va vc A C) {α : Type} {f : α → Value} {v : Value} {l : List α} {base e : Nat} (hr : RwX f V0 v l) {U : World} (hown : U.ownsRow base e 1 v l.length (l.map f)) (hU : (x2 ≤ base ∧ U.heap.size ≤ y1) ∨ y2 ≤ base) : RwX f W v l := by
  obtain ⟨ao, c, e, hc, hr⟩ := hr
  refine ⟨ao, c, e, hc, ?_⟩
  rcases hr with hr | ⟨b, off, e2, hr⟩
  · exact .inl hr
  · refine .inr ⟨b, off, e2, fun j x hj => ?_⟩
    have hb := hown.lt b (by rw [e, e2]; rfl)
    have hx := h.x
    have hc := hr j x hj
    have hin := cell_in hc
    have e' : W.heap[b]? = V0.heap[b]? := by rw [h.k b _ (Array.getElem?_eq_getElem hin) (by omega) (by omega), Array.getElem?_eq_getElem hin]
    exact (World.cell?_of_block (a := ⟨b, off + j, none⟩) e').trans hc
end
theorem cI_one16 (l : List Int) : ∀ y ∈ l.map cI, y.oneCell' = true := by
  intro y hy
  obtain ⟨x, -, rfl⟩ := List.mem_map.1 hy
  rfl
theorem cod_le (F : Int) (L : List Nde) (most : Int) : (codB F L most).length ≤ 4194304 := by
  by_cases h : codE F L most = 0
  · exact (cod_len h).1
  · unfold codB; rw [if_neg h]; simp
theorem ordR_le (F : Int) (L : List Nde) : (ordR F L).length ≤ L.length := by
  unfold ordR
  split
  · rename_i h; exact ord_len (chk_ok h).1
  · simp
set_option maxRecDepth 100000 in
set_option maxHeartbeats 16000000 in
theorem emitOwn_any (F : Int) (v : Value) (L : List Nde) (w : World) (hF0 : -9223372036854775808 ≤ F) (hF1 : F ≤ 9223372036854775807) (hv : RwD w v L) (hl : L.length ≤ 140737488355328) (hr : ∀ d ∈ L, d.r.length ≤ 140737488355328) :
    Calls Try.prog 4 #[.int .i64 F, v] w fun e w' => e = .returned (.bool true) ∧ Below w.heap.size w w' := by
  obtain ⟨i0, hi, hz0, hz1, hz2⟩ := info13 Try.infoB13
  obtain ⟨j0, ji, jz0, jz1, jz2⟩ := info13 Try.infoN16
  have HV := hid13 hv
  have HL : Hid (L.length ≤ 140737488355328 ∧ ∀ d ∈ L, d.r.length ≤ 140737488355328) := ⟨hl, hr⟩
  obtain ⟨ao, c, hvf, -⟩ := id hv
  subst hvf
  clear hv hl hr hF0 hF1
  go_enter Try.func4, Try.ntmps4
  go_wp2_with fail
  refine (known16 _).mono ?_
  rintro e w1 ⟨rfl, hb1⟩
  have HB1 := hid13 hb1
  have KS := small_any _ L w1 (HV.out.below hb1) HL.out.1 HL.out.2
  clear hb1
  go_wp2_with fail
  refine KS.mono ?_
  rintro e w2 ⟨t, rfl, ht, hw⟩
  subst hw
  clear KS
  cases t with
  | false =>
    go_wp2
    go_ret
    exact ⟨rfl, HB1.out⟩
  | true =>
  have hf := few_ok (ht rfl)
  have HS : Hid (L.length ≤ 1000000000 ∧ ∀ d ∈ L, d.r.length ≤ 1000000000) := ⟨by omega, fun d hd => by have := hf.2 d hd; omega⟩
  have KC := fun W (h : RwD W (.slice ao L.length c) L) => code_any F _ L 1048576 W h HS.out.1 HS.out.2
  have KO := fun W (h : RwD W (.slice ao L.length c) L) => order_any F _ L W h HS.out.1 HS.out.2
  have HX := hid13 (codB_lt F L 1048576)
  have HBl := hid13 (cod_le F L 1048576)
  have HCl : Hid ((ordR F L).length ≤ 500) := by show _ ≤ _; have := ordR_le F L; omega
  obtain ⟨B, hB⟩ : ∃ B, B = codB F L 1048576 := ⟨_, rfl⟩
  obtain ⟨C, hC⟩ : ∃ C, C = ordR F L := ⟨_, rfl⟩
  obtain ⟨E, hE⟩ : ∃ E, E = codE F L 1048576 := ⟨_, rfl⟩
  obtain ⟨E2, hE2⟩ : ∃ E2, E2 = (chkM F L).2 := ⟨_, rfl⟩
  rw [← hB, ← hE] at KC
  rw [← hC, ← hE2] at KO
  rw [← hB] at HX HBl
  rw [← hC] at HCl
  have K1 := KC w2 (HV.out.below HB1.out)
  have HKC := hid13 KC
  have HKO := hid13 KO
  clear hf ht HL hB hE hC hE2 KC KO
  go_wp2_with fail
  refine K1.mono ?_
  rintro e w3 ⟨v3, rfl, hO3, hb3⟩
  obtain ⟨o3, c3, hv3⟩ := own_form hO3
  subst hv3
  have HO3 := hid13 hO3
  have HB3 := hid13 hb3
  have K2 := HKC.out w3 (HV.out.below (keepb hb3 HB1.out))
  clear K1 hO3 hb3
  go_wp2_with fail
  refine K2.mono ?_
  rintro e w4 ⟨v4, rfl, hO4, hb4⟩
  obtain ⟨o4, c4, hv4⟩ := own_form hO4
  subst hv4
  have HO4 := hid13 hO4
  have HB4 := hid13 hb4
  have K3 := HKO.out w4 (HV.out.below (keepb hb4 (keepb HB3.out HB1.out)))
  clear K2 hO4 hb4
  go_wp2_with fail
  refine K3.mono ?_
  rintro e w5 ⟨v5, rfl, hO5, hb5⟩
  obtain ⟨o5, c5, hv5⟩ := own_form hO5
  subst hv5
  have HO5 := hid13 hO5
  have HB5 := hid13 hb5
  have K4 := HKO.out w5 (HV.out.below (keepb hb5 (keepb HB4.out (keepb HB3.out HB1.out))))
  clear K3 hO5 hb5
  go_wp2_with fail
  refine K4.mono ?_
  rintro e w6 ⟨v6, rfl, hO6, hb6⟩
  obtain ⟨o6, c6, hv6⟩ := own_form hO6
  subst hv6
  have HO6 := hid13 hO6
  have HB6 := hid13 hb6
  have cv := conv13 (own_rwx (own_b13 (keepb hb6 HB5.out) HO4.out)) HX.out
  obtain ⟨S, hS⟩ : ∃ S, S = bsA B := ⟨_, rfl⟩
  rw [← hS] at cv
  have q7 := bl1 w6 (.cells #[] 3)
  have HQ7 : Hid ((w6.alloc (.cells #[] 3)).ownsRow w6.heap.size 3 1 (.slice (some ⟨w6.heap.size, 0, none⟩) 0 0) 0 []) := World.ownsRow_made w6 #[] 0 (Nat.le_refl _) (by unfold maxLen; omega) (by simp)
  have HR7 := hid13 ((own_rowA HO6.out).below q7)
  clear K4 hO6 hb6
  go_wp2_with (at_builtin; apply stopHere9)
  refine (show wpList _ _ _ _ _ _ from ?_)
  refine wpList_append_rowA rfl _ _ 30 rfl w6.heap.size 3 j0 (.int .i64 0) 1 8 Try.underlying30 ji jz0 jz1 jz2 rfl (by decide) _ 0 [] rfl HQ7.out _ C.length (C.map cI) rfl HR7.out (cI_one16 C) (by have := HCl.out; unfold maxLen; omega) (by have := HCl.out; omega) q7.size ?_
  intro o7 c7 w7 hO7 hg7
  rw [Nat.zero_add, List.nil_append] at hO7
  rw [Nat.zero_add]
  have hB7 : Below w6.heap.size w6 w7 := q7.grown hg7 q7.size (fun z hz => (HQ7.out.lt z hz).1)
  have HEo : Hid (EoW w w7 w7 w2.heap.size w3.heap.size w4.heap.size w5.heap.size (.slice o3 B.length c3) (.slice o5 C.length c5) B C) := by
    have s3 := HB3.out.size
    have s4 := HB4.out.size
    have s5 := HB5.out.size
    have s6 := HB6.out.size
    have s7 := hB7.size
    have b36 := keepb hB7 (keepb HB6.out HB5.out)
    refine ⟨keepb b36 (keepb HB4.out (keepb HB3.out HB1.out)), fun z ob h1 _ _ => h1, Nat.le_refl _, own_b13 b36 (own_b13 HB4.out HO3.out), own_b13 (keepb hB7 HB6.out) HO5.out, fun z hz => .inl (HO3.out.lt z hz), fun z hz => .inl (HO5.out.lt z hz), fun z h1 h2 => ?_, ⟨HB1.out.size, s3, s4, s5, by omega⟩⟩
    have := (HO3.out.lt z h1).2
    have := (HO5.out.lt z h2).1
    omega
  have HR4 := hid13 ((own_rwx (own_b13 (keepb HB6.out HB5.out) HO4.out)).below hB7)
  have HR6 := hid13 ((own_rwx HO6.out).below hB7)
  have HRw := hid13 (own_rwx hO7)
  have HO7 := hid13 hO7
  have HU : Hid (w3.heap.size ≤ w3.heap.size ∧ w5.heap.size ≤ w6.heap.size) := ⟨Nat.le_refl _, HB6.out.size⟩
  clear hO7 hg7 hB7 q7 HQ7 HR7 cv HB6 HB5 HB4 HB3 HB1
  obtain ⟨X1, hX1⟩ : ∃ n, n = w2.heap.size := ⟨_, rfl⟩
  obtain ⟨X2, hX2⟩ : ∃ n, n = w3.heap.size := ⟨_, rfl⟩
  obtain ⟨Y1, hY1⟩ : ∃ n, n = w4.heap.size := ⟨_, rfl⟩
  obtain ⟨Y2, hY2⟩ : ∃ n, n = w5.heap.size := ⟨_, rfl⟩
  rw [← hX1, ← hX2, ← hY1, ← hY2] at HEo
  have HY : Hid (X2 = w3.heap.size ∧ Y1 = w4.heap.size ∧ Y2 = w5.heap.size) := ⟨hX2, hY1, hY2⟩
  clear hX1 hX2 hY1 hY2 HO3 HO5
  have HcB : Hid (cB 238 = .int .u8 238) := rfl
  go_wp2_with fail
  go_loopg [15] B.length (fun g i wr => ∃ (j : Nat) (R : List Nat), j + g = B.length ∧ i = .int .i64 (j : Int) ∧ Hid (EoW w w7 wr X1 X2 Y1 Y2 (.slice o3 R.length c3) (.slice o5 C.length c5) R C) ∧ Hid (R.length = B.length))
  case atStart => exact ⟨0, B, by omega, rfl, HEo, rfl⟩
  case round =>
    clear HEo
    obtain ⟨j, R, hj, rfl, HW, HRl⟩ := hrel
    by_cases hlt : j < B.length
    · have hli : (j : Int) < (B.length : Int) := by omega
      obtain ⟨g, cg, hv, -, -⟩ := HW.out.a.form (by rw [HRl.out]; omega)
      injection hv with e1 e2 e3
      subst e1
      obtain ⟨u, hu⟩ : ∃ u, wr.cell? ⟨g, j, none⟩ = some u := by
        rw [HW.out.a.cellAt j (by rw [HRl.out]; omega)]
        exact ⟨_, List.getElem?_eq_getElem (by have := HW.out.a.1; have := HRl.out; omega)⟩
      have hf := HW.out.a.frozenAt j
      have HST : Hid (EoW w w7 (wr.setCell ⟨g, j, none⟩ (.int .u8 238)) X1 X2 Y1 Y2 (.slice (some ⟨g, 0, none⟩) (R.set j 238).length c3) (.slice o5 C.length c5) (R.set j 238) C) := HW.out.storeA (j := j) 238
      have HRl2 : Hid ((R.set j 238).length = B.length) := by show _ = _; rw [List.length_set]; exact HRl.out
      have mj : IntKind.i64.wrap ((j : Int) + 1) = (j : Int) + 1 := by rw [IntKind.wrap_i64]; have := HBl.out; omega
      have HJ : Hid (j + gk = B.length ∧ j < B.length) := ⟨hj, hlt⟩
      clear hj hlt e2 e3
      go_wp2
      go_roundg (gk - 1)
      case measure => have := HJ.out; omega
      case rel => exact ⟨j + 1, R.set j 238, by have := HJ.out; omega, rfl, HST, HRl2⟩
    · have hli : ¬ (j : Int) < (B.length : Int) := by omega
      have HW2 : Hid (EoW w w7 wr X1 X2 Y1 Y2 (.slice o3 B.length c3) (.slice o5 C.length c5) R C) := by have := HW.out; rw [HRl.out] at this; exact this
      clear HW hj hlt
      go_wp2_with fail
      go_loopg [16] C.length (fun g i wr2 => ∃ (j : Nat) (R2 : List Int), j + g = C.length ∧ i = .int .i64 (j : Int) ∧ Hid (EoW w w7 wr2 X1 X2 Y1 Y2 (.slice o3 B.length c3) (.slice o5 R2.length c5) R R2) ∧ Hid (R2.length = C.length))
      case atStart => exact ⟨0, C, by omega, rfl, HW2, rfl⟩
      case round =>
        clear HW2
        obtain ⟨j2, R2, hj, rfl, HW, HRl2⟩ := hrel
        by_cases hlt : j2 < C.length
        · have hli : (j2 : Int) < (C.length : Int) := by omega
          obtain ⟨g, cg, hv, -, -⟩ := HW.out.c.form (by rw [HRl2.out]; omega)
          injection hv with e1 e2 e3
          subst e1
          obtain ⟨u, hu⟩ : ∃ u, wr.cell? ⟨g, j2, none⟩ = some u := by
            rw [HW.out.c.cellAt j2 (by rw [HRl2.out]; omega)]
            exact ⟨_, List.getElem?_eq_getElem (by have := HW.out.c.1; have := HRl2.out; omega)⟩
          have hf := HW.out.c.frozenAt j2
          have HST : Hid (EoW w w7 (wr.setCell ⟨g, j2, none⟩ (.int .i64 (-5))) X1 X2 Y1 Y2 (.slice o3 B.length c3) (.slice (some ⟨g, 0, none⟩) (R2.set j2 (-5)).length c5) R (R2.set j2 (-5))) := HW.out.storeC (j := j2) (-5)
          have HRl3 : Hid ((R2.set j2 (-5)).length = C.length) := by show _ = _; rw [List.length_set]; exact HRl2.out
          have mj : IntKind.i64.wrap ((j2 : Int) + 1) = (j2 : Int) + 1 := by rw [IntKind.wrap_i64]; have := HCl.out; omega
          have HJ : Hid (j2 + gk = C.length ∧ j2 < C.length) := ⟨hj, hlt⟩
          clear hj hlt e2 e3
          go_wp2
          go_roundg (gk - 1)
          case measure => have := HJ.out; omega
          case rel => exact ⟨j2 + 1, R2.set j2 (-5), by have := HJ.out; omega, rfl, HST, HRl3⟩
        · have hli : ¬ (j2 : Int) < (C.length : Int) := by omega
          have HW2 : Hid (EoW w w7 wr X1 X2 Y1 Y2 (.slice o3 B.length c3) (.slice o5 C.length c5) R R2) := by have := HW.out; rw [HRl2.out] at this; exact this
          clear HW hj hlt
          go_wp2_with fail
          go_loopg [5, 9, 17] 30 (fun g a c i wr3 => ∃ (j : Nat) (R : List Nat) (R2 : List Int), j + g = 30 ∧ i = .int .i64 (j : Int) ∧ Hid (EoW w w7 wr3 X1 X2 Y1 Y2 a c R R2) ∧ Hid (R.length ≤ 4194304 + j ∧ R2.length ≤ 500 + j))
          case atStart => exact ⟨0, R, R2, by omega, rfl, HW2, ⟨by rw [HRl.out]; exact HBl.out, by rw [HRl2.out]; exact HCl.out⟩⟩
          case round =>
            clear HW2
            obtain ⟨t, R3, R4, ht, rfl, HW3, HR3⟩ := hrel
            by_cases hlt : t < 30
            · have hli : (t : Int) < 30 := by omega
              have mj : IntKind.i64.wrap ((t : Int) + 1) = (t : Int) + 1 := by rw [IntKind.wrap_i64]; omega
              have HJ : Hid (t + gk = 30 ∧ t < 30) := ⟨ht, hlt⟩
              obtain ⟨a1, a2, ha⟩ := own_form HW3.out.a
              subst ha
              obtain ⟨k1, k2, hk⟩ := own_form HW3.out.c
              subst hk
              have q8 := bl1 wr (.cells #[.int .u8 1] 5)
              have HW4 := hid13 (HW3.out.below q8)
              have h63 : R3.length + 1 ≤ maxLen := by have := HR3.out; unfold maxLen; omega
              have h47 : (R3.length + 1) * 1 ≤ 140737488355328 := by have := HR3.out; omega
              have hAs : X1 ≤ (wr.alloc (.cells #[.int .u8 1] 5)).heap.size := by have := HW4.out.x; have := HW4.out.s; omega
              clear ht hlt q8
              go_wp2_with (at_builtin; apply stopHere9)
              refine (show wpList _ _ _ _ _ _ from ?_)
              refine wpList_append_lies _ rfl _ _ 25 rfl X1 5 i0 (.int .u8 0) 1 1 Try.underlying25 hi hz0 hz1 hz2 rfl (by decide) _ R3.length (R3.map cB) rfl HW4.out.a ⟨wr.heap.size, 0, none⟩ 1 1 [.int .u8 1] rfl rfl (news13 (by simp [go_sem])) (by intro u hu; simp at hu; subst hu; rfl) (by decide) h63 h47 hAs _ rfl ?_
              intro g4 cap4 w14 hown4 hgrow hat hlt4
              have HD4 := hid13 (HW4.out.appA (A' := R3 ++ [1]) (v' := .slice (some ⟨g4, 0, none⟩) (R3.length + 1) cap4) (by rw [List.length_append, List.map_append]; exact hown4) hgrow (fun z hz => by simp only [Value.ownBlock, Option.some.injEq] at hz; subst hz; exact hat))
              have q9 := bl1 w14 (.cells #[.int .i64 2] 3)
              have HW5 := hid13 (HD4.out.below q9)
              have h63 : R4.length + 1 ≤ maxLen := by have := HR3.out; unfold maxLen; omega
              have h47 : (R4.length + 1) * 8 ≤ 140737488355328 := by have := HR3.out; omega
              have hAs : Y1 ≤ (w14.alloc (.cells #[.int .i64 2] 3)).heap.size := by have := HW5.out.x; have := HW5.out.s; omega
              clear hown4 hgrow hat hlt4 q9 HW4 HW3
              go_wp2_with (at_builtin; apply stopHere9)
              refine (show wpList _ _ _ _ _ _ from ?_)
              refine wpList_append_lies _ rfl _ _ 30 rfl Y1 3 j0 (.int .i64 0) 1 8 Try.underlying30 ji jz0 jz1 jz2 rfl (by decide) _ R4.length (R4.map cI) rfl HW5.out.c ⟨w14.heap.size, 0, none⟩ 1 1 [.int .i64 2] rfl rfl (news13 (by simp [go_sem])) (by intro u hu; simp at hu; subst hu; rfl) (by decide) h63 h47 hAs _ rfl ?_
              intro g5 cap5 w15 hown5 hgrow hat hlt5
              have HD5 := hid13 (HW5.out.appC (C' := R4 ++ [2]) (v' := .slice (some ⟨g5, 0, none⟩) (R4.length + 1) cap5) (by rw [List.length_append, List.map_append]; exact hown5) hgrow (fun z hz => by simp only [Value.ownBlock, Option.some.injEq] at hz; subst hz; exact hat))
              clear hown5 hgrow hat hlt5 HW5 HD4 h63 h47 hAs
              go_wp2
              go_roundg (gk - 1)
              case measure => have := HJ.out; omega
              case rel => exact ⟨t + 1, R3 ++ [1], R4 ++ [2], by have := HJ.out; omega, rfl, HD5, by have := HR3.out; exact ⟨by rw [List.length_append]; show R3.length + 1 ≤ _; omega, by rw [List.length_append]; show R4.length + 1 ≤ _; omega⟩⟩
            · have hli : ¬ (t : Int) < 30 := by omega
              have HB8 := hid13 HW3.out.b
              have y := HY.out
              have R4' := hid13 (HW3.out.row HR4.out HO4.out (.inl ⟨Nat.le_of_eq y.1, Nat.le_of_eq y.2.1.symm⟩))
              have R6' := hid13 (HW3.out.row HR6.out HO6.out (.inr (Nat.le_of_eq y.2.2)))
              have Rw' := hid13 (HW3.out.row HRw.out HO7.out (.inr (by rw [y.2.2]; exact HU.out.2)))
              have K8 := HKC.out wr (HV.out.below HB8.out)
              clear HW3 ht hlt y
              go_wp2_with fail
              refine K8.mono ?_
              rintro e w8 ⟨v8, rfl, hO8, hb8⟩
              obtain ⟨o8, c8, hv8⟩ := own_form hO8
              subst hv8
              have HB9 := hid13 (keepb hb8 HB8.out)
              have cv1 := conv13 (R4'.out.below hb8) HX.out
              have HRx := hid13 (own_rwx hO8)
              have KI := sameInts_any16 _ _ C w8 (R6'.out.below hb8) (Rw'.out.below hb8) (by have := HCl.out; omega)
              rw [← hS] at cv1
              clear K8 hO8 hb8 HB8
              go_wp2_with fail
              refine KI.mono ?_
              rintro e w9 ⟨rfl, hb9⟩
              have cv2 := conv13 (HRx.out.below hb9) HX.out
              rw [← hS] at cv2
              have HB10 := hid13 (keepb hb9 HB9.out)
              clear KI hb9 HB9
              go_wp2
              go_ret
              exact ⟨rfl, HB10.out⟩
end Go.Proofs.Ytkchalaicmanfab
