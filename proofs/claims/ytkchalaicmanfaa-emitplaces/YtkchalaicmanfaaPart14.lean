/-
  Part 14 of the proof: 6 texts, one behind the other.
-/
import Derived.Test.YtkchalaicmanfaaPart13
import Derived.Test.YtkchalaicmanfaaPart4
import Derived.Test.YtkchalaicmanfaaPart3
import Derived.Test.YtkchalaicmanfaaPart10
namespace Go.Proofs.Ytkchalaicmanfaa
open Go.RowKit Go.Shelf
set_option linter.unusedSimpArgs false
set_option linter.unusedVariables false
attribute [local go_sem] Oper.semAt_some

def knL : List Nde := [⟨1, [⟨0#128, false, 5⟩, ⟨1#128, false, 0⟩]⟩]
theorem kn_E : codE 32 knL 1000 = 0 := by decide +kernel
theorem kn_B : codB 32 knL 1000 = [1, 0, 0, 1, 2, 0, 0, 1, 192, 0, 0, 0, 4, 0, 0, 5, 4, 0, 0, 0] := by decide +kernel
set_option maxRecDepth 20000 in
set_option maxHeartbeats 8000000 in
theorem known16 (w : World) :
    Calls Try.prog 9 #[] w fun e w' => e = .returned (.bool true) ∧ Below w.heap.size w w' := by
  have hb1 : Below w.heap.size w ((w.alloc (.cells #[.int .u64 0, .int .u64 0, .bool false, .int .i64 5, .int .u64 0, .int .u64 1, .bool false, .int .i64 0] 64)).alloc (.cells #[.int .i64 1, .slice (some ⟨w.heap.size, 0, none⟩) 2 2] 24)) := bl2 w _ _
  have hI1 : hI 1#128 = 0 := by decide +kernel
  have lI1 : lI 1#128 = 1 := by decide +kernel
  have hv : RwD ((w.alloc (.cells #[.int .u64 0, .int .u64 0, .bool false, .int .i64 5, .int .u64 0, .int .u64 1, .bool false, .int .i64 0] 64)).alloc (.cells #[.int .i64 1, .slice (some ⟨w.heap.size, 0, none⟩) 2 2] 24)) (.slice (some ⟨w.heap.size + 1, 0, none⟩) 1 1) knL := by
    refine ⟨_, 1, rfl, Nat.le_refl _, .inr ⟨w.heap.size + 1, 0, rfl, fun j d hj => ?_⟩⟩
    cases j with
    | succ j => simp [knL] at hj
    | zero =>
      simp [knL] at hj
      subst hj
      refine ⟨.slice (some ⟨w.heap.size, 0, none⟩) 2 2, by simp [go_sem], by simp [go_sem], _, 2, rfl, Nat.le_refl _, .inr ⟨w.heap.size, 0, rfl, fun j r hj => ?_⟩⟩
      match j, hj with
      | 0, hj =>
        simp at hj
        subst hj
        unfold RnAt
        rw [hI_zero, lI_zero]
        refine ⟨?_, ?_, ?_, ?_⟩ <;> simp [go_sem]
      | 1, hj =>
        simp at hj
        subst hj
        unfold RnAt
        rw [hI1, lI1]
        refine ⟨?_, ?_, ?_, ?_⟩ <;> simp [go_sem]
      | j + 2, hj => simp at hj
  have KC := code_any 32 _ knL 1000 _ hv (by decide) (by decide)
  rw [kn_E, kn_B] at KC
  have HB1 := hid13 hb1
  clear hv hb1 hI1 lI1
  go_enter Try.func9, Try.ntmps9
  go_wp2_with fail
  refine KC.mono ?_
  rintro e w2 ⟨v', rfl, ho, hb⟩
  have HB2 := hid13 (keepb hb HB1.out)
  have hc := conv13 (l := [1, 0, 0, 1, 2, 0, 0, 1, 192, 0, 0, 0, 4, 0, 0, 5, 4, 0, 0, 0]) (own_rwx ho) (by decide)
  have hs : bsA [1, 0, 0, 1, 2, 0, 0, 1, 192, 0, 0, 0, 4, 0, 0, 5, 4, 0, 0, 0] = ⟨#[1, 0, 0, 1, 2, 0, 0, 1, 192, 0, 0, 0, 4, 0, 0, 5, 4, 0, 0, 0]⟩ := rfl
  rw [hs] at hc
  clear KC ho hb HB1
  go_wp2
  exact bodyPost_ret (v := .bool true) (by simp [results, Try.results9, go_sem]) rfl ⟨rfl, HB2.out⟩
end Go.Proofs.Ytkchalaicmanfaa
namespace Go.Proofs.Ytkchalaicmanfaa
open Go.RowKit
set_option linter.unusedSimpArgs false
set_option linter.unusedVariables false
attribute [local go_sem] Oper.semAt_some

def fwN : List Nde → Nat
  | [] => 0
  | d :: L => 1 + d.r.length + fwN L
theorem fw_take (L : List Nde) (k : Nat) (h : k < L.length) : fwN (L.take (k + 1)) = fwN (L.take k) + 1 + L[k].r.length := by
  induction L generalizing k with
  | nil => simp at h
  | cons d L ih =>
    cases k with
    | zero => simp [fwN]
    | succ k =>
      simp only [List.take_succ_cons, fwN, List.getElem_cons_succ]
      rw [ih k (by simpa using h)]
      omega
theorem fw_mem {L : List Nde} {d : Nde} (h : d ∈ L) : d.r.length < fwN L := by
  induction L with
  | nil => cases h
  | cons e L ih =>
    rcases List.mem_cons.mp h with h | h
    · subst h; simp only [fwN]; omega
    · have := ih h; simp only [fwN]; omega
theorem fw_le {L : List Nde} {K : Nat} (hr : ∀ d ∈ L, d.r.length ≤ K) : ∀ k, fwN (L.take k) ≤ k * (K + 1)
  | 0 => by simp [fwN]
  | k + 1 => by
    have ih := fw_le hr k
    rw [Nat.succ_mul]
    by_cases h : k < L.length
    · rw [fw_take L k h]
      have := hr _ (List.getElem_mem h)
      omega
    · rw [List.take_of_length_le (by omega)]
      rw [List.take_of_length_le (by omega)] at ih
      omega
def fewB (L : List Nde) : Bool := decide (L.length < 500) && decide (fwN (L.take 500) < 5000)
theorem few_ok {L : List Nde} (h : fewB L = true) : L.length < 500 ∧ ∀ d ∈ L, d.r.length < 5000 := by
  unfold fewB at h
  simp only [Bool.and_eq_true, decide_eq_true_eq] at h
  rw [List.take_of_length_le (by omega)] at h
  exact ⟨h.1, fun d hd => by have := fw_mem hd; omega⟩
set_option maxRecDepth 20000 in
set_option maxHeartbeats 4000000 in
theorem few_any (v : Value) (L : List Nde) (w : World) (hv : RwD w v L) (hl : L.length ≤ 140737488355328) (hr : ∀ d ∈ L, d.r.length ≤ 140737488355328) :
    Calls Try.prog 13 #[v] w fun e w' => e = .returned (.bool (fewB L)) ∧ w' = w := by
  obtain ⟨ao, c, rfl, hc, hrow⟩ := hv
  have HC := hid13 hrow
  have HL : Hid (L.length ≤ 140737488355328 ∧ ∀ d ∈ L, d.r.length ≤ 140737488355328) := ⟨hl, hr⟩
  have hl' : (L.length : Int) ≤ 140737488355328 := by omega
  have HF : Hid (fewB L = (decide (L.length < 500) && decide (fwN (L.take 500) < 5000))) := rfl
  generalize fewB L = fb at *
  clear hr hrow hl
  go_enter Try.func13, Try.ntmps13
  go_wp2_with fail
  go_loopw [3, 4] (fun nv kv wr => ∃ k n : Nat, k ≤ L.length ∧ k ≤ 500 ∧ nv = .int .i64 n ∧ kv = .int .i64 k ∧ Hid (n = fwN (L.take k)) ∧ wr = w) (fun _ kv _ => L.length - (intOf kv).toNat)
  case atStart => exact ⟨0, 0, by omega, by omega, rfl, rfl, (rfl : 0 = fwN (L.take 0)), rfl⟩
  case round =>
    obtain ⟨k, n, hk, hk5, rfl, rfl, hN, rfl⟩ := hrel
    have hnb : n ≤ 70368744177664500 := by
      have h1 := fw_le HL.out.2 k
      rw [← hN.out] at h1
      have h2 := Nat.mul_le_mul_right (140737488355328 + 1) hk5
      exact Nat.le_trans h1 (Nat.le_trans h2 (by decide))
    by_cases hlt : (k : Int) < (L.length : Int)
    · by_cases h5 : (k : Int) < 500
      · have hks : k < L.length := by omega
        obtain ⟨b, off, rfl, hcell⟩ := HC.out.resolve_left (by rintro rfl; simp at hks)
        obtain ⟨vr, x0, x1, hR⟩ := hcell k _ (List.getElem?_eq_getElem hks)
        have hrk := HL.out.2 _ (List.getElem_mem hks)
        obtain ⟨vo, vc, hvr, -, -⟩ := hR
        subst hvr
        have ht := fw_take L k hks
        generalize L[k].r.length = m at *
        have m1 : wrap64 ((n : Int) + 1) = (n : Int) + 1 := by unfold wrap64; omega
        have m2 : wrap64 ((n : Int) + 1 + (m : Int)) = (n : Int) + 1 + (m : Int) := by unfold wrap64; omega
        have m3 : wrap64 ((k : Int) + 1) = (k : Int) + 1 := by unfold wrap64; omega
        clear hcell x0
        go_wp2
        go_roundw
        case rel => exact ⟨k + 1, n + 1 + m, by omega, by omega, by push_cast; rfl, by push_cast; rfl, (by rw [ht, ← hN.out] : n + 1 + m = fwN (L.take (k + 1))), trivial⟩
        case measure => first | (simp [intOf]; omega) | (unfold intOf; simp; omega)
      · have hl5 : ¬ (L.length : Int) < 500 := by omega
        have hfb : fb = false := by rw [HF.out]; simp; omega
        subst hfb
        clear HC
        go_wp2
        go_ret
        exact ⟨rfl, rfl⟩
    · have hke : k = L.length := by omega
      subst hke
      by_cases h5 : (L.length : Int) < 500
      · have h5' : L.length < 500 := by omega
        have hF2 := HF.out
        have hN2 := hN.out
        rw [List.take_of_length_le (Nat.le_refl _)] at hN2
        rw [List.take_of_length_le (Nat.le_of_lt h5'), ← hN2] at hF2
        by_cases hn : (n : Int) < 5000
        · have hfb : fb = true := by rw [hF2]; simp; omega
          subst hfb
          clear HC hF2 hN2 HF hN
          go_wp2
          go_ret
          exact ⟨rfl, rfl⟩
        · have hfb : fb = false := by rw [hF2]; simp; omega
          subst hfb
          clear HC hF2 hN2 HF hN
          go_wp2
          go_ret
          exact ⟨rfl, rfl⟩
      · have hfb : fb = false := by rw [HF.out]; simp; omega
        subst hfb
        clear HC
        go_wp2
        go_ret
        exact ⟨rfl, rfl⟩
end Go.Proofs.Ytkchalaicmanfaa
namespace Go.Proofs.Ytkchalaicmanfaa
open Go.RowKit Go.Shelf
set_option linter.unusedSimpArgs false
set_option linter.unusedVariables false
attribute [local go_sem] Oper.semAt_some

theorem rwd_one (w : World) (b : Int) (v : Value) (l : List Rn) (T : TypeId) (hv : RwN w v l) : RwD (w.alloc (.cells #[.int .i64 b, v] T)) (.slice (some ⟨w.heap.size, 0, none⟩) 1 1) [⟨b, l⟩] := by
  refine ⟨_, 1, rfl, Nat.le_refl _, .inr ⟨w.heap.size, 0, rfl, fun j d hj => ?_⟩⟩
  cases j with
  | zero =>
    simp at hj
    subst hj
    exact ⟨v, (atd_new w b v T).1, (atd_new w b v T).2, hv.below (bl1 _ _)⟩
  | succ j => simp at hj
def wdsE (d : Nde) : Int := if bitsB d.b = true then (if ioB d = true then (if d.b ≤ 24 then 0 else 18) else 19) else 1
def wdsN (d : Nde) : Int := if wdsE d = 0 then (szN d : Int) else 0
theorem chk_one (d : Nde) : ((chkM 128 [d]).2 = 1 ↔ bitsB d.b = false) ∧ ((chkM 128 [d]).2 = 19 ↔ (bitsB d.b = true ∧ ioB d = false)) := by
  have hf : fam 128 = true := by decide
  have ha : argB d.b 1 = bitsB d.b := by unfold argB; simp
  have hr : ∀ (l : List Rn), runsE 0 1 l = 0 ∨ runsE 0 1 l = 15 ∨ runsE 0 1 l = 26 := by
    intro l
    induction l with
    | nil => exact .inl rfl
    | cons r l ih =>
      unfold runsE
      have : runE r 0 1 = 0 ∨ runE r 0 1 = 15 ∨ runE r 0 1 = 26 := by unfold runE; split <;> split <;> simp
      rcases this with q | q | q
      · rw [if_pos q]; exact ih
      · rw [if_neg (by omega)]; exact .inr (.inl q)
      · rw [if_neg (by omega)]; exact .inr (.inr q)
  have hd : (deepR 128 [d]).2 = 0 ∨ (deepR 128 [d]).2 = 27 := by
    unfold deepR dpG
    split
    · exact .inr rfl
    · exact .inl rfl
  have hn : nodesE [d] = ndeE d 0 1 := by
    unfold nodesE
    rw [if_neg (by simp)]
    show ndsE 1 0 [d] = _
    unfold ndsE
    by_cases q : ndeE d ((0 : Nat) : Int) 1 = 0
    · rw [if_pos q]; exact q.symm
    · rw [if_neg q]; rfl
  unfold chkM
  rw [if_pos hf, hn]
  unfold ndeE
  rw [ha]
  cases hb : bitsB d.b with
  | false => simp
  | true =>
    cases hio : ioB d with
    | false => simp
    | true =>
      simp only [if_true]
      rcases hr d.r with q | q | q
      · rw [if_pos q]
        cases hu : usedB [d] with
        | false => simp
        | true =>
          simp only [if_true]
          rcases hd with z | z <;> rw [z] <;> simp
      · rw [if_neg (by omega), q]; simp
      · rw [if_neg (by omega), q]; simp
end Go.Proofs.Ytkchalaicmanfaa
namespace Go.Proofs.Ytkchalaicmanfaa
open Go.RowKit Go.Shelf
set_option linter.unusedSimpArgs false
set_option linter.unusedVariables false
attribute [local go_sem] Oper.semAt_some

set_option maxRecDepth 20000 in
set_option maxHeartbeats 4000000 in
theorem words_any16 (b : Int) (v : Value) (l : List Rn) (w : World) (hv : RwN w v l) (hl : l.length ≤ 1000000000) :
    Calls Try.prog 10 #[.agg #[.int .i64 b, v]] w fun e w' => e = .returned (.tuple #[.int .i64 (wdsN ⟨b, l⟩), .int .i64 (wdsE ⟨b, l⟩)]) ∧ Below w.heap.size w w' := by
  obtain ⟨ao, c, hvf, -⟩ := id hv
  have q1 := bl1 w (.cells #[.int .i64 b, v] 24)
  have a1 := atd_new w b v 24
  have hv1 := hv.below q1
  have KC := mcheck_any 128 (.slice (some ⟨w.heap.size + 1, 0, none⟩) 1 1) [⟨b, l⟩] ((w.alloc (.cells #[.int .i64 b, v] 24)).alloc (.cells #[.int .i64 b, v] 24)) (by have := rwd_one (w.alloc (.cells #[.int .i64 b, v] 24)) b v l 24 hv1; rwa [World.size_alloc] at this) (by simp) (by simpa using hl)
  obtain ⟨o1, o2⟩ := chk_one ⟨b, l⟩
  have HK1 := hid13 o1
  have HK2 := hid13 o2
  have HV := hid13 (hv1.below (bl1 _ (.cells #[.int .i64 b, v] 24)))
  have HA := hid13 (a1.below (bl1 _ (.cells #[.int .i64 b, v] 24)))
  have HB := hid13 (bl2 w (.cells #[.int .i64 b, v] 24) (.cells #[.int .i64 b, v] 24))
  have HL : Hid (l.length ≤ 1000000000) := hl
  generalize chkM 128 [⟨b, l⟩] = cm at *
  obtain ⟨cd, ce⟩ := cm
  dsimp only at KC HK1 HK2
  subst hvf
  clear o1 o2 q1 a1 hv1 hv
  go_enter Try.func10, Try.ntmps10
  go_wp2_with fail
  refine KC.mono ?_
  rintro e w2 ⟨rfl, hb2⟩
  have HB2 := hid13 (keepb hb2 HB.out)
  have HV2 := hid13 (HV.out.below hb2)
  obtain ⟨a0, a1⟩ := HA.out.below hb2
  have HA2 : Hid (AtD w2 w.heap.size b (.slice ao l.length c)) := ⟨a0, a1⟩
  clear KC hb2 HB HV HA
  cases hb : bitsB b with
  | false =>
    have hce : ce = 1 := HK1.out.2 hb
    have HE : Hid (wdsE ⟨b, l⟩ = 1 ∧ wdsN ⟨b, l⟩ = 0) := by
      have : wdsE ⟨b, l⟩ = 1 := by unfold wdsE; rw [if_neg (by simp [hb])]
      exact ⟨this, by unfold wdsN; rw [this]; rfl⟩
    subst hce
    clear hb HK1 HK2
    go_wp2
    exact bodyPost_ret (v := .tuple #[.int .i64 0, .int .i64 1]) (by simp [results, Try.results10, go_sem]) rfl ⟨by rw [HE.out.1, HE.out.2], HB2.out⟩
  | true =>
    have hc1 : (ce == 1) = false := by
      rw [beq_eq_false_iff_ne]; intro q
      have := HK1.out.1 q
      rw [hb] at this; cases this
    cases hio : ioB ⟨b, l⟩ with
    | false =>
      have hce : ce = 19 := HK2.out.2 ⟨hb, hio⟩
      have HE : Hid (wdsE ⟨b, l⟩ = 19 ∧ wdsN ⟨b, l⟩ = 0) := by
        have : wdsE ⟨b, l⟩ = 19 := by unfold wdsE; rw [if_pos (by simp [hb]), if_neg (by simp [hio])]
        exact ⟨this, by unfold wdsN; rw [this]; rfl⟩
      subst hce
      clear hb HK1 HK2 hio hc1
      go_wp2
      exact bodyPost_ret (v := .tuple #[.int .i64 0, .int .i64 19]) (by simp [results, Try.results10, go_sem]) rfl ⟨by rw [HE.out.1, HE.out.2], HB2.out⟩
    | true =>
      have hc2 : (ce == 19) = false := by
        rw [beq_eq_false_iff_ne]; intro q
        have := (HK2.out.1 q).2
        rw [hio] at this; cases this
      have KL := fun w => canBeLaid_any b ao l.length c w
      by_cases h24 : b ≤ 24
      · have HE : Hid (wdsE ⟨b, l⟩ = 0 ∧ wdsN ⟨b, l⟩ = (szN ⟨b, l⟩ : Int)) := by
          have : wdsE ⟨b, l⟩ = 0 := by unfold wdsE; rw [if_pos (by simp [hb]), if_pos (by simp [hio]), if_pos h24]
          exact ⟨this, by unfold wdsN; rw [if_pos this]⟩
        have h0 : 0 ≤ b := by unfold bitsB at hb; simp at hb; exact hb.1
        have KS := fun w h => size_any16 b (.slice ao l.length c) l w h h0 h24 HL.out
        rw [decide_eq_true h24] at KL
        clear hb HK1 HK2 hio h24
        go_wp2_with fail
        refine (KL _).mono ?_
        rintro e w3 ⟨rfl, hb3⟩
        have HB3 := hid13 (keepb hb3 HB2.out)
        have KS3 := KS _ (HV2.out.below hb3)
        have a0 := keepc hb3 a0
        have a1 := keepc hb3 a1
        clear KL hb3 KS HB2 HV2 HA2
        go_wp2_with fail
        refine KS3.mono ?_
        rintro e w4 ⟨rfl, hb4⟩
        have HB4 := hid13 (keepb hb4 HB3.out)
        clear KS3 hb4 HB3
        go_wp2
        exact bodyPost_ret (v := .tuple #[.int .i64 (szN ⟨b, l⟩ : Int), .int .i64 0]) (by simp [results, Try.results10, go_sem]) rfl ⟨by rw [HE.out.1, HE.out.2], HB4.out⟩
      · have HE : Hid (wdsE ⟨b, l⟩ = 18 ∧ wdsN ⟨b, l⟩ = 0) := by
          have : wdsE ⟨b, l⟩ = 18 := by unfold wdsE; rw [if_pos (by simp [hb]), if_pos (by simp [hio]), if_neg h24]
          exact ⟨this, by unfold wdsN; rw [this]; rfl⟩
        rw [decide_eq_false h24] at KL
        clear hb HK1 HK2 hio h24
        go_wp2_with fail
        refine (KL _).mono ?_
        rintro e w3 ⟨rfl, hb3⟩
        have HB3 := hid13 (keepb hb3 HB2.out)
        clear KL hb3 HB2 HV2 HA2
        go_wp2
        exact bodyPost_ret (v := .tuple #[.int .i64 0, .int .i64 18]) (by simp [results, Try.results10, go_sem]) rfl ⟨by rw [HE.out.1, HE.out.2], HB3.out⟩
end Go.Proofs.Ytkchalaicmanfaa
namespace Go.Proofs.Ytkchalaicmanfaa
open Go.RowKit
set_option linter.unusedSimpArgs false
set_option linter.unusedVariables false

structure EpOk (L : List Nde) (o P : List Int) (n : Nat) : Prop where
  pl : P.length = L.length
  at' : ∀ (i k : Nat) (d : Nde), o[i]? = some (k : Int) → L[k]? = some d → P[k]? = some ((wsum L (o.take i) : Nat) : Int) ∧ wdsE d = 0 ∧ wsum L (o.take (i + 1)) = wsum L (o.take i) + szN d ∧ ∀ r ∈ d.r, r.k = true → ∃ (q : Nat) (y : Nat), r.n = (q : Int) ∧ q < L.length ∧ P[q]? = some (y : Int) ∧ wsum L (o.take i) < y
  sum : wsum L o = n
  le : ∀ i, wsum L (o.take i) ≤ n
def bigB (L : List Nde) : Bool := L.any fun d => decide (24 < d.b)
theorem big_take (L : List Nde) (k : Nat) (h : k < L.length) : bigB (L.take (k + 1)) = (bigB (L.take k) || decide (24 < L[k].b)) := by
  unfold bigB
  rw [List.take_succ_eq_append_getElem h, List.any_append]
  simp
theorem pl_none {L : List Nde} : ∀ (o P : List Int) (n : Nat), plG L o P n = none → ∃ k ∈ o, 24 < (L.getD k.toNat ⟨0, []⟩).b
  | [], P, n, h => by unfold plG at h; cases h
  | k :: o, P, n, h => by
    unfold plG at h
    by_cases hb : (L.getD k.toNat ⟨0, []⟩).b ≤ 24
    · rw [if_pos hb] at h
      obtain ⟨j, hj, h2⟩ := pl_none o _ _ h
      exact ⟨j, List.mem_cons_of_mem _ hj, h2⟩
    · exact ⟨k, List.mem_cons_self .., by omega⟩
theorem nodup_len16 : ∀ {l m : List Int}, l.Nodup → (∀ x ∈ l, x ∈ m) → l.length ≤ m.length
  | [], m, _, _ => by simp
  | x :: l, m, hn, hs => by
    have hx := hs x (List.mem_cons_self ..)
    have hne := List.nodup_cons.mp hn
    have ih := nodup_len16 (m := m.erase x) hne.2 (fun y hy => (List.mem_erase_of_ne (by rintro rfl; exact hne.1 hy)).mpr (hs y (List.mem_cons_of_mem _ hy)))
    rw [List.length_erase_of_mem hx] at ih
    have := List.length_pos_of_mem hx
    simp only [List.length_cons]
    omega
theorem ord_full {L : List Nde} (ok : NdsOk L) (hu : usedB L = true) : (ordL L).length = L.length := by
  have h1 := ord_len ok
  have h2 := ord_all ok hu
  have h3 : ((List.range L.length).map fun z : Nat => (z : Int)).length ≤ (ordL L).length := by
    refine nodup_len16 ?_ ?_
    · refine List.Pairwise.map _ ?_ List.nodup_range
      intro a b h e
      exact h (by have e2 : ((a : Nat) : Int) = ((b : Nat) : Int) := e; omega)
    · intro x hx
      obtain ⟨z, hz, rfl⟩ := List.mem_map.mp hx
      exact h2 z (by simpa using hz)
  simp at h3
  omega
theorem ep_ok {L : List Nde} {P : List Int} {n : Nat} (ok : NdsOk L) (hp : plG L (ordL L) (List.replicate L.length 0) 0 = some (P, n)) : EpOk L (ordL L) P n := by
  have ho := ord_ok ok
  have hin := ord_in ok
  have pl := pl_ok (ordL L) _ P 0 n ho.nd (fun k hk => by have := hin k hk; simp; omega) hp
  generalize ordL L = o at *
  have hs : wsum L o = n := by have := pl.n; omega
  refine ⟨by rw [pl.len]; simp, fun i k d hi hd => ?_, hs, fun i => ?_⟩
  · obtain ⟨hil, he⟩ := List.getElem?_eq_some_iff.mp hi
    have hsp : o = o.take i ++ (k : Int) :: o.drop (i + 1) := by
      rw [← he, List.getElem_cons_drop, List.take_append_drop]
    have hsz : L.getD (k : Int).toNat ⟨0, []⟩ = d := by rw [Int.toNat_natCast, List.getD_eq_getElem?_getD, hd]; rfl
    have nd := ok.2 k d hd
    have hb := pl.bits (k : Int) (List.mem_of_getElem? hi)
    rw [hsz] at hb
    have h1 := pl.at' _ _ _ hsp
    rw [Int.toNat_natCast, Nat.zero_add] at h1
    refine ⟨h1, ?_, ?_, fun r hr hk => ?_⟩
    · have hbb : bitsB d.b = true := by unfold bitsB; have := nd.b0; have := nd.b1; simp; omega
      unfold wdsE
      rw [if_pos hbb, if_pos nd.io, if_pos hb]
    · rw [List.take_succ_eq_append_getElem hil, wsum_app, he]
      show _ + (szN (L.getD (k : Int).toNat ⟨0, []⟩) + 0) = _
      rw [hsz]; omega
    · obtain ⟨a1, a2, a3⟩ := ok.lead hd hr hk
      have hin2 := ho.kid _ (k : Int) _ hsp d r (by rw [Int.toNat_natCast]; exact hd) hr hk
      obtain ⟨B1, B2, hB⟩ := List.append_of_mem hin2
      have hat := pl.at' (o.take i ++ (k : Int) :: B1) r.n B2 (by rw [List.append_assoc, List.cons_append, ← hB]; exact hsp)
      rw [Nat.zero_add, wsum_app] at hat
      have hs1 : wsum L ((k : Int) :: B1) = szN d + wsum L B1 := by
        show szN (L.getD (k : Int).toNat ⟨0, []⟩) + wsum L B1 = _
        rw [hsz]
      rw [hs1] at hat
      have := sz_pos d
      exact ⟨r.n.toNat, _, by omega, by omega, hat, by omega⟩
  · rw [← hs]
    conv => rhs; rw [← List.take_append_drop i o, wsum_app]
    omega
theorem lay_cases {F : Int} {L : List Nde} (h : (chkM F L).2 = 0) : NdsOk L ∧ (ordL L).length = L.length ∧ (∃ B, ordL L = 0 :: B) ∧ (∀ x ∈ ordL L, ∃ k : Nat, x = (k : Int) ∧ k < L.length) ∧ (layR F L).1.2.2 ≤ (layR F L).1.2.2 ∧
    (((layR F L).2 = 0 ∧ bigB L = false ∧ EpOk L (ordL L) (layR F L).1.2.1 (layR F L).1.2.2) ∨ ((layR F L).2 = 18 ∧ bigB L = true)) := by
  obtain ⟨ok, hu, -, -⟩ := chk_ok h
  have hin := ord_in ok
  refine ⟨ok, ord_full ok hu, (ord_ok ok).zero, fun x hx => ⟨x.toNat, by have := hin x hx; omega, by have := hin x hx; omega⟩, Nat.le_refl _, ?_⟩
  cases hp : plG L (ordL L) (List.replicate L.length 0) 0 with
  | none =>
    right
    refine ⟨by unfold layR; rw [if_pos h, hp], ?_⟩
    obtain ⟨k, hk, h2⟩ := pl_none _ _ _ hp
    have := hin k hk
    have hkl : k.toNat < L.length := by omega
    rw [List.getD_eq_getElem?_getD, List.getElem?_eq_getElem hkl] at h2
    unfold bigB
    rw [List.any_eq_true]
    exact ⟨_, List.getElem_mem hkl, by simpa using h2⟩
  | some q =>
    obtain ⟨P, n⟩ := q
    left
    have e : layR F L = ((ordL L, P, n), 0) := by unfold layR; rw [if_pos h, hp]
    rw [e]
    refine ⟨rfl, ?_, ep_ok ok hp⟩
    have pl := pl_ok (ordL L) _ P 0 n (ord_ok ok).nd (fun k hk => by have := hin k hk; simp; omega) hp
    unfold bigB
    rw [List.any_eq_false]
    intro d hd
    obtain ⟨z, hz⟩ := List.getElem?_of_mem hd
    have hzl := (List.getElem?_eq_some_iff.mp hz).1
    have hb := pl.bits _ (ord_all ok hu z hzl)
    rw [Int.toNat_natCast, List.getD_eq_getElem?_getD, hz] at hb
    simp at hb ⊢
    omega
end Go.Proofs.Ytkchalaicmanfaa
namespace Go.Proofs.Ytkchalaicmanfaa
open Go.RowKit Go.Shelf
set_option linter.unusedSimpArgs false
set_option linter.unusedVariables false
attribute [local go_sem] Oper.semAt_some

set_option maxRecDepth 100000 in
set_option maxHeartbeats 16000000 in
theorem emitPlaces_any (F : Int) (v : Value) (L : List Nde) (w : World) (hF0 : -9223372036854775808 ≤ F) (hF1 : F ≤ 9223372036854775807) (hv : RwD w v L) (hl : L.length ≤ 140737488355328) (hr : ∀ d ∈ L, d.r.length ≤ 140737488355328) :
    Calls Try.prog 7 #[.int .i64 F, v] w fun e w' => e = .returned (.bool true) ∧ Below w.heap.size w w' := by
  have HV := hid13 hv
  have HL : Hid (L.length ≤ 140737488355328 ∧ ∀ d ∈ L, d.r.length ≤ 140737488355328) := ⟨hl, hr⟩
  obtain ⟨ao, c, hvf, -, hrow⟩ := id hv
  subst hvf
  have HRow := hid13 hrow
  clear hv hl hr hF0 hF1 hrow
  go_enter Try.func7, Try.ntmps7
  go_wp2_with fail
  refine (known16 _).mono ?_
  rintro e w1 ⟨rfl, hb1⟩
  have HB1 := hid13 hb1
  have KS := few_any _ L w1 (HV.out.below hb1) HL.out.1 HL.out.2
  have HFw := hid13 (fun h => few_ok (L := L) h)
  generalize fewB L = fb at *
  clear hb1
  go_wp2_with fail
  refine KS.mono ?_
  rintro e w2 ⟨rfl, hw⟩
  subst hw
  clear KS
  cases fb with
  | false =>
    go_wp2
    go_ret
    exact ⟨rfl, HB1.out⟩
  | true =>
  have hf := HFw.out rfl
  have HS : Hid (L.length ≤ 1000000000 ∧ ∀ d ∈ L, d.r.length ≤ 1000000000) := ⟨by omega, fun d hd => by have := hf.2 d hd; omega⟩
  have hL5 : L.length < 500 := hf.1
  have HN := hid13 (lay_words (F := F) HS.out.1 HS.out.2)
  have KO := order_any F _ L w2 (HV.out.below HB1.out) HS.out.1 HS.out.2
  have KP := fun W (h : RwD W (.slice ao L.length c) L) => places_any F _ L W h HS.out.1 HS.out.2
  have HC := hid13 (fun h => lay_cases (F := F) (L := L) h)
  have HZ : Hid ((chkM F L).2 ≠ 0 → ordR F L = [] ∧ layR F L = (([], [], 0), (chkM F L).2)) := by
    intro h
    exact ⟨by unfold ordR; rw [if_neg h], by unfold layR; rw [if_neg h]⟩
  have HO0 : Hid ((chkM F L).2 = 0 → ordR F L = ordL L) := by intro h; unfold ordR; rw [if_pos h]
  generalize ordR F L = o at *
  generalize layR F L = R at *
  generalize (chkM F L).2 = E at *
  have HKP := hid13 KP
  clear hf HFw HL KP
  go_wp2_with fail
  refine KO.mono ?_
  rintro e w3 ⟨v3, rfl, hO3, hb3⟩
  obtain ⟨o3, c3, hv3⟩ := own_form hO3
  subst hv3
  have HO3 := hid13 hO3
  have HB3 := hid13 (keepb hb3 HB1.out)
  have K2 := HKP.out w3 (HV.out.below HB3.out)
  obtain ⟨⟨R1, P, n⟩, E2⟩ := R
  dsimp only at K2 HC HZ HN
  clear KO hO3 hb3 HB1
  go_wp2_with fail
  refine K2.mono ?_
  rintro e w4 ⟨v4, rfl, hO4, hb4⟩
  obtain ⟨o4, c4, hv4⟩ := own_form hO4
  subst hv4
  have HB4 := hid13 (keepb hb4 HB3.out)
  have HRo := hid13 ((own_rwx HO3.out).below hb4)
  have HRp := hid13 (own_rwx hO4)
  clear K2 hO4 hb4 HO3 HB3 HKP
  by_cases hE : E = 0
  · subst hE
    obtain ⟨ok, hlen, ⟨B, hB⟩, hin, -, hcs⟩ := HC.out rfl
    rw [← HO0.out rfl] at hlen hB hin hcs
    have HOk := hid13 ok
    have HIn := hid13 hin
    have HCs := hid13 hcs
    have hL0 := ok.1
    rw [hlen] at HRo ⊢
    obtain ⟨oa, oc, hov, -, hor⟩ := id HRo.out
    rw [hlen] at hov
    injection hov with e1 e2 e3
    subst e1 e3
    obtain ⟨ob, oof, e4, hoc⟩ := hor.resolve_left (by rintro rfl; cases hB)
    subst e4
    have HOc := hid13 hoc
    have hz := hoc 0 0 (by rw [hB]; rfl)
    rw [Nat.add_zero] at hz
    replace hz : w4.cell? ⟨ob, oof, none⟩ = some (.int .i64 0) := hz
    have hLi : (0 : Int) < (L.length : Int) := by omega
    have HLn := hid13 hlen
    obtain ⟨nb, nof, e5, hnc⟩ := HRow.out.resolve_left (by rintro rfl; simp at hL0)
    subst e5
    have HNc := hid13 hnc
    clear hcs hin hB hoc hor ok HC HZ HO0 hnc e2 hlen
    go_wp2_with fail
    go_loopg [10, 11] L.length (fun g bv kv wr => ∃ k : Nat, k + g = L.length ∧ bv = .bool (bigB (L.take k)) ∧ kv = .int .i64 (k : Int) ∧ wr = w4)
    case atStart => exact ⟨0, by omega, rfl, rfl, rfl⟩
    case round =>
      obtain ⟨k, hk, rfl, rfl, hw⟩ := hrel
      replace hw := hw.symm
      subst hw
      by_cases hlt : (k : Int) < (L.length : Int)
      · have hks : k < L.length := by omega
        obtain ⟨vr, x0, x1, hR⟩ := HNc.out k _ (List.getElem?_eq_getElem hks)
        have x0 := keepc HB4.out x0
        have HT := hid13 (big_take L k hks)
        generalize bigB (L.take k) = bk at *
        generalize L[k].b = m at *
        have mj : IntKind.i64.wrap ((k : Int) + 1) = (k : Int) + 1 := by rw [IntKind.wrap_i64]; omega
        have HK : Hid (k + gk = L.length) := hk
        clear x1 hR hz hk
        cases bk with
        | true =>
          have h1 : Hid (Value.bool true = .bool (bigB (L.take (k + 1)))) := by show _ = _; rw [HT.out]; rfl
          clear HT x0
          go_wp2
          go_roundg (gk - 1)
          case measure => have := HK.out; omega
          case rel => exact ⟨k + 1, by have := HK.out; omega, h1.out, rfl, rfl⟩
        | false =>
          by_cases h24 : 24 < m
          · have h1 : Hid (Value.bool true = .bool (bigB (L.take (k + 1)))) := by show _ = _; rw [HT.out]; simp [h24]
            clear HT
            go_wp2
            go_roundg (gk - 1)
            case measure => have := HK.out; omega
            case rel => exact ⟨k + 1, by have := HK.out; omega, h1.out, rfl, rfl⟩
          · have h1 : Hid (Value.bool false = .bool (bigB (L.take (k + 1)))) := by show _ = _; rw [HT.out]; simp [h24]
            clear HT
            go_wp2
            go_roundg (gk - 1)
            case measure => have := HK.out; omega
            case rel => exact ⟨k + 1, by have := HK.out; omega, h1.out, rfl, rfl⟩
      · have hke : k = L.length := by omega
        subst hke
        rw [List.take_of_length_le (Nat.le_refl _)]
        rcases HCs.out with ⟨hE2, hbig, hep⟩ | ⟨hE2, hbig⟩
        · subst hE2
          rw [hbig]
          have HEp := hid13 hep
          have hpl := hep.pl
          rw [hpl] at HRp ⊢
          obtain ⟨pa, pc, hpv, -, hpr⟩ := id HRp.out
          rw [hpl] at hpv
          injection hpv with e1 e2 e3
          subst e1 e3
          obtain ⟨pb, pof, e4, hpc⟩ := hpr.resolve_left (by rintro rfl; simp at hpl; omega)
          subst e4
          have HPc := hid13 hpc
          have HPl := hid13 hpl
          clear hep hpr hpc HCs hbig e2 hz hk hpl
          go_wp2_with fail
          go_loopg [12, 13] L.length (fun g av iv wr => ∃ i : Nat, i + g = L.length ∧ av = .int .i64 ((wsum L (o.take i) : Nat) : Int) ∧ iv = .int .i64 (i : Int) ∧ Hid (Below w4.heap.size w4 wr))
          case atStart => exact ⟨0, by omega, rfl, rfl, Below.refl _ _⟩
          case round =>
            obtain ⟨i, hi, rfl, rfl, HBr⟩ := hrel
            by_cases hlt2 : (i : Int) < (L.length : Int)
            · have his : i < o.length := by have := HLn.out; omega
              obtain ⟨k, hk1, hk2⟩ := HIn.out _ (List.getElem_mem his)
              have hoi : o[i]? = some (k : Int) := by rw [List.getElem?_eq_getElem his, hk1]
              have co := HOc.out i _ hoi
              replace co : w4.cell? ⟨ob, oof + i, none⟩ = some (.int .i64 (k : Int)) := co
              obtain ⟨⟨db, dr⟩, hd⟩ : ∃ d, L[k]? = some d := ⟨_, List.getElem?_eq_getElem hk2⟩
              obtain ⟨vr, x0, x1, hR⟩ := HNc.out k _ hd
              obtain ⟨p1, p2, p3, p4⟩ := HEp.out.at' i k _ hoi hd
              have cp := HPc.out k _ p1
              have hle := HEp.out.le (i + 1)
              have hdr := HS.out.2 _ (List.mem_of_getElem? hd)
              have hwn : wdsN ⟨db, dr⟩ = (szN ⟨db, dr⟩ : Int) := by unfold wdsN; rw [if_pos p2]
              dsimp only at x0 hR p4 hdr
              have HX0 := hid13 (keepc HB4.out x0)
              have HX1 := hid13 (keepc HB4.out x1)
              have HR := hid13 (hR.below HB4.out)
              have HCo := hid13 co
              obtain ⟨S1, hS1⟩ : ∃ S1, S1 = wsum L (o.take (i + 1)) := ⟨_, rfl⟩
              rw [← hS1] at p3 hle
              generalize wsum L (o.take i) = a at *
              replace cp : w4.cell? ⟨pb, pof + k, none⟩ = some (.int .i64 (a : Int)) := cp
              have HCp := hid13 cp
              have HP4 := hid13 p4
              have HS1 := hid13 hS1
              obtain ⟨va, vc, hvr, -, hvrow⟩ := id HR.out
              subst hvr
              have HVr := hid13 hvrow
              have KW := words_any16 db _ dr wr (HR.out.below HBr.out) hdr
              rw [p2, hwn] at KW
              clear p2 hwn hS1
              have m29 : wrap64 ((a : Int) + (szN ⟨db, dr⟩ : Int)) = (S1 : Int) := by have := HN.out; unfold wrap64; omega
              have m23 : wrap64 ((i : Int) + 1) = (i : Int) + 1 := by unfold wrap64; omega
              generalize szN ⟨db, dr⟩ = sz at *
              have hki : (k : Int) < (L.length : Int) := Int.ofNat_lt.mpr hk2
              have hk0 : ¬ (k : Int) < 0 := Int.not_lt.mpr (Int.natCast_nonneg k)
              obtain ⟨G, hG⟩ : ∃ G, G = gk := ⟨_, rfl⟩
              have HJ : Hid (i + G = L.length ∧ i < L.length ∧ G = gk) := ⟨by omega, by omega, hG⟩
              have co := keepc HBr.out co
              have cp := keepc HBr.out cp
              have x0 := keepc HBr.out HX0.out
              have x1 := keepc HBr.out HX1.out
              clear hG hi his hk1 hk2 hoi hd hR p1 p3 p4 hle hvrow
              go_wp2_with fail
              refine KW.mono ?_
              rintro e w5 ⟨rfl, hb5⟩
              have HB5 := hid13 (keepb hb5 HBr.out)
              clear KW hb5 co cp x0 x1 HBr
              go_wp2_with fail
              rw [m29]
              clear m29
              go_loopg [16] dr.length (fun g jv wr2 => ∃ j : Nat, j + g = dr.length ∧ jv = .int .i64 (j : Int) ∧ Hid (Below w4.heap.size w4 wr2))
              case atStart => exact ⟨0, by omega, rfl, HB5⟩
              case round =>
                clear HB5
                obtain ⟨j, hj, rfl, HB6⟩ := hrel
                have co := keepc HB6.out HCo.out
                have x1 := keepc HB6.out HX1.out
                by_cases hlt3 : (j : Int) < (dr.length : Int)
                · have hjs : j < dr.length := by omega
                  obtain ⟨rb, rof, e6, hrc⟩ := HVr.out.resolve_left (by rintro rfl; simp at hjs)
                  subst e6
                  obtain ⟨r0, r1, r2, r3⟩ := hrc j _ (List.getElem?_eq_getElem hjs)
                  have HPk := hid13 (HP4.out _ (List.getElem_mem hjs))
                  generalize dr[j] = r at *
                  have r0 := keepc HB6.out r0
                  have r1 := keepc HB6.out r1
                  have r2 := keepc HB6.out r2
                  have r3 := keepc HB6.out r3
                  obtain ⟨rf, rk, rn⟩ := r
                  dsimp only at r0 r1 r2 r3 HPk
                  have q7 := bl1 wr (.cells #[.int .u64 (hI rf), .int .u64 (lI rf), .bool rk, .int .i64 rn] 64)
                  have HB7 := hid13 (keepb q7 HB6.out)
                  have cp := keepc HB7.out HCp.out
                  have co7 := keepc HB7.out HCo.out
                  have mj : wrap64 ((j : Int) + 1) = (j : Int) + 1 := by unfold wrap64; omega
                  have HK : Hid (j + gk = dr.length ∧ j < dr.length) := ⟨hj, hjs⟩
                  clear hj hrc
                  cases rk with
                  | false =>
                    have HB8 := hid13 HB7.out.drew
                    clear HPk
                    go_wp2_with fail
                    go_region
                    go_wp2
                    go_roundg (gk - 1)
                    case measure => have := HK.out; omega
                    case rel => exact ⟨j + 1, by have := HK.out; omega, rfl, HB8⟩
                  | true =>
                    obtain ⟨q, y, y1, y2, y3, y4⟩ := HPk.out rfl
                    subst y1
                    have cq := HPc.out q _ y3
                    replace cq : w4.cell? ⟨pb, pof + q, none⟩ = some (.int .i64 (y : Int)) := cq
                    have cq := keepc HB7.out cq
                    have hqi : (q : Int) < (L.length : Int) := by omega
                    have hya : ¬ (y : Int) ≤ (a : Int) := by omega
                    have HB8 := hid13 HB7.out.drew
                    clear HPk y2 y3 y4
                    go_wp2_with fail
                    go_region
                    go_wp2
                    go_roundg (gk - 1)
                    case measure => have := HK.out; omega
                    case rel => exact ⟨j + 1, by have := HK.out; omega, rfl, HB8⟩
                · clear hj
                  go_wp2
                  go_roundg (G - 1)
                  case measure => have := HJ.out; omega
                  case rel => exact ⟨i + 1, by have := HJ.out; omega, by rw [HS1.out], by push_cast; rfl, HB6⟩
            · have hie : i = L.length := by omega
              subst hie
              have HB5 := hid13 (keepb HBr.out HB4.out)
              have hsum := HEp.out.sum
              rw [List.take_of_length_le (by have := HLn.out; omega), hsum]
              clear HBr hi hsum
              go_wp2
              go_ret
              exact ⟨rfl, HB5.out⟩
        · subst hE2
          rw [hbig]
          clear HCs hz hk hbig
          go_wp2
          go_ret
          exact ⟨rfl, HB4.out⟩
  · obtain ⟨z1, z2⟩ := HZ.out hE
    injection z2 with z2 z3
    injection z2 with z2 z4
    injection z4 with z4 z5
    subst z1 z2 z3 z4 z5
    have hne : (E2 != 0) = true := by simpa using hE
    clear HC HZ HO0 hE HN
    go_wp2
    go_ret
    exact ⟨rfl, HB4.out⟩
end Go.Proofs.Ytkchalaicmanfaa
