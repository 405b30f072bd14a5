/-
  Part 14 of the proof: 5 texts, one behind the other.
-/
import Derived.Test.YtkchalaicmanfaaPart13
import Derived.Test.YtkchalaicmanfaaPart4
import Derived.Test.YtkchalaicmanfaaPart10
import Derived.Test.YtkchalaicmanfaaPart3
import Derived.Test.YtkchalaicmanfaaPart1
import Derived.ProofKit
import Derived.Deep.Slices
import Derived.Deep.Strs
import Derived.Carry
import Derived.SizedLaws
import Derived.Lib.SmallJoins
namespace Go.Proofs.Ytkchalaicmanfaa
open Go.RowKit Go.Shelf
set_option linter.unusedSimpArgs false
set_option linter.unusedVariables false
attribute [local go_sem] Oper.semAt_some

def knL : List Nde := [⟨1, [⟨0#128, false, 5⟩, ⟨1#128, false, 0⟩]⟩]
theorem kn_E : codE 32 knL 1000 = 0 := by decide +kernel
theorem kn_B : codB 32 knL 1000 = [1, 0, 0, 1, 2, 0, 0, 1, 192, 0, 0, 0, 4, 0, 0, 5, 4, 0, 0, 0] := by decide +kernel
set_option maxRecDepth 20000 in
set_option maxHeartbeats 8000000 in
theorem known16 (w : World) :
    Calls Try.prog 9 #[] w fun e w' => e = .returned (.bool true) ∧ Below w.heap.size w w' := by
  have hb1 : Below w.heap.size w ((w.alloc (.cells #[.int .u64 0, .int .u64 0, .bool false, .int .i64 5, .int .u64 0, .int .u64 1, .bool false, .int .i64 0] 64)).alloc (.cells #[.int .i64 1, .slice (some ⟨w.heap.size, 0, none⟩) 2 2] 24)) := bl2 w _ _
  have hI1 : hI 1#128 = 0 := by decide +kernel
  have lI1 : lI 1#128 = 1 := by decide +kernel
  have hv : RwD ((w.alloc (.cells #[.int .u64 0, .int .u64 0, .bool false, .int .i64 5, .int .u64 0, .int .u64 1, .bool false, .int .i64 0] 64)).alloc (.cells #[.int .i64 1, .slice (some ⟨w.heap.size, 0, none⟩) 2 2] 24)) (.slice (some ⟨w.heap.size + 1, 0, none⟩) 1 1) knL := by
    refine ⟨_, 1, rfl, Nat.le_refl _, .inr ⟨w.heap.size + 1, 0, rfl, fun j d hj => ?_⟩⟩
    cases j with
    | succ j => simp [knL] at hj
    | zero =>
      simp [knL] at hj
      subst hj
      refine ⟨.slice (some ⟨w.heap.size, 0, none⟩) 2 2, by simp [go_sem], by simp [go_sem], _, 2, rfl, Nat.le_refl _, .inr ⟨w.heap.size, 0, rfl, fun j r hj => ?_⟩⟩
      match j, hj with
      | 0, hj =>
        simp at hj
        subst hj
        unfold RnAt
        rw [hI_zero, lI_zero]
        refine ⟨?_, ?_, ?_, ?_⟩ <;> simp [go_sem]
      | 1, hj =>
        simp at hj
        subst hj
        unfold RnAt
        rw [hI1, lI1]
        refine ⟨?_, ?_, ?_, ?_⟩ <;> simp [go_sem]
      | j + 2, hj => simp at hj
  have KC := code_any 32 _ knL 1000 _ hv (by decide) (by decide)
  rw [kn_E, kn_B] at KC
  have HB1 := hid13 hb1
  clear hv hb1 hI1 lI1
  go_enter Try.func9, Try.ntmps9
  go_wp2_with fail
  refine KC.mono ?_
  rintro e w2 ⟨v', rfl, ho, hb⟩
  have HB2 := hid13 (keepb hb HB1.out)
  have hc := conv13 (l := [1, 0, 0, 1, 2, 0, 0, 1, 192, 0, 0, 0, 4, 0, 0, 5, 4, 0, 0, 0]) (own_rwx ho) (by decide)
  have hs : bsA [1, 0, 0, 1, 2, 0, 0, 1, 192, 0, 0, 0, 4, 0, 0, 5, 4, 0, 0, 0] = ⟨#[1, 0, 0, 1, 2, 0, 0, 1, 192, 0, 0, 0, 4, 0, 0, 5, 4, 0, 0, 0]⟩ := rfl
  rw [hs] at hc
  clear KC ho hb HB1
  go_wp2
  exact bodyPost_ret (v := .bool true) (by simp [results, Try.results9, go_sem]) rfl ⟨rfl, HB2.out⟩
end Go.Proofs.Ytkchalaicmanfaa
namespace Go.Proofs.Ytkchalaicmanfaa
open Go.RowKit Go.Shelf
set_option linter.unusedSimpArgs false
set_option linter.unusedVariables false
attribute [local go_sem] Oper.semAt_some

theorem rwd_one (w : World) (b : Int) (v : Value) (l : List Rn) (T : TypeId) (hv : RwN w v l) : RwD (w.alloc (.cells #[.int .i64 b, v] T)) (.slice (some ⟨w.heap.size, 0, none⟩) 1 1) [⟨b, l⟩] := by
  refine ⟨_, 1, rfl, Nat.le_refl _, .inr ⟨w.heap.size, 0, rfl, fun j d hj => ?_⟩⟩
  cases j with
  | zero =>
    simp at hj
    subst hj
    exact ⟨v, (atd_new w b v T).1, (atd_new w b v T).2, hv.below (bl1 _ _)⟩
  | succ j => simp at hj
def wdsE (d : Nde) : Int := if bitsB d.b = true then (if ioB d = true then (if d.b ≤ 24 then 0 else 18) else 19) else 1
def wdsN (d : Nde) : Int := if wdsE d = 0 then (szN d : Int) else 0
theorem chk_one (d : Nde) : ((chkM 128 [d]).2 = 1 ↔ bitsB d.b = false) ∧ ((chkM 128 [d]).2 = 19 ↔ (bitsB d.b = true ∧ ioB d = false)) := by
  have hf : fam 128 = true := by decide
  have ha : argB d.b 1 = bitsB d.b := by unfold argB; simp
  have hr : ∀ (l : List Rn), runsE 0 1 l = 0 ∨ runsE 0 1 l = 15 ∨ runsE 0 1 l = 26 := by
    intro l
    induction l with
    | nil => exact .inl rfl
    | cons r l ih =>
      unfold runsE
      have : runE r 0 1 = 0 ∨ runE r 0 1 = 15 ∨ runE r 0 1 = 26 := by unfold runE; split <;> split <;> simp
      rcases this with q | q | q
      · rw [if_pos q]; exact ih
      · rw [if_neg (by omega)]; exact .inr (.inl q)
      · rw [if_neg (by omega)]; exact .inr (.inr q)
  have hd : (deepR 128 [d]).2 = 0 ∨ (deepR 128 [d]).2 = 27 := by
    unfold deepR dpG
    split
    · exact .inr rfl
    · exact .inl rfl
  have hn : nodesE [d] = ndeE d 0 1 := by
    unfold nodesE
    rw [if_neg (by simp)]
    show ndsE 1 0 [d] = _
    unfold ndsE
    by_cases q : ndeE d ((0 : Nat) : Int) 1 = 0
    · rw [if_pos q]; exact q.symm
    · rw [if_neg q]; rfl
  unfold chkM
  rw [if_pos hf, hn]
  unfold ndeE
  rw [ha]
  cases hb : bitsB d.b with
  | false => simp
  | true =>
    cases hio : ioB d with
    | false => simp
    | true =>
      simp only [if_true]
      rcases hr d.r with q | q | q
      · rw [if_pos q]
        cases hu : usedB [d] with
        | false => simp
        | true =>
          simp only [if_true]
          rcases hd with z | z <;> rw [z] <;> simp
      · rw [if_neg (by omega), q]; simp
      · rw [if_neg (by omega), q]; simp
end Go.Proofs.Ytkchalaicmanfaa
namespace Go.Proofs.Ytkchalaicmanfaa
open Go.RowKit Go.Shelf
set_option linter.unusedSimpArgs false
set_option linter.unusedVariables false
attribute [local go_sem] Oper.semAt_some

set_option maxRecDepth 20000 in
set_option maxHeartbeats 4000000 in
theorem words_any16 (b : Int) (v : Value) (l : List Rn) (w : World) (hv : RwN w v l) (hl : l.length ≤ 1000000000) :
    Calls Try.prog 10 #[.agg #[.int .i64 b, v]] w fun e w' => e = .returned (.tuple #[.int .i64 (wdsN ⟨b, l⟩), .int .i64 (wdsE ⟨b, l⟩)]) ∧ Below w.heap.size w w' := by
  obtain ⟨ao, c, hvf, -⟩ := id hv
  have q1 := bl1 w (.cells #[.int .i64 b, v] 24)
  have a1 := atd_new w b v 24
  have hv1 := hv.below q1
  have KC := mcheck_any 128 (.slice (some ⟨w.heap.size + 1, 0, none⟩) 1 1) [⟨b, l⟩] ((w.alloc (.cells #[.int .i64 b, v] 24)).alloc (.cells #[.int .i64 b, v] 24)) (by have := rwd_one (w.alloc (.cells #[.int .i64 b, v] 24)) b v l 24 hv1; rwa [World.size_alloc] at this) (by simp) (by simpa using hl)
  obtain ⟨o1, o2⟩ := chk_one ⟨b, l⟩
  have HK1 := hid13 o1
  have HK2 := hid13 o2
  have HV := hid13 (hv1.below (bl1 _ (.cells #[.int .i64 b, v] 24)))
  have HA := hid13 (a1.below (bl1 _ (.cells #[.int .i64 b, v] 24)))
  have HB := hid13 (bl2 w (.cells #[.int .i64 b, v] 24) (.cells #[.int .i64 b, v] 24))
  have HL : Hid (l.length ≤ 1000000000) := hl
  generalize chkM 128 [⟨b, l⟩] = cm at *
  obtain ⟨cd, ce⟩ := cm
  dsimp only at KC HK1 HK2
  subst hvf
  clear o1 o2 q1 a1 hv1 hv
  go_enter Try.func10, Try.ntmps10
  go_wp2_with fail
  refine KC.mono ?_
  rintro e w2 ⟨rfl, hb2⟩
  have HB2 := hid13 (keepb hb2 HB.out)
  have HV2 := hid13 (HV.out.below hb2)
  obtain ⟨a0, a1⟩ := HA.out.below hb2
  have HA2 : Hid (AtD w2 w.heap.size b (.slice ao l.length c)) := ⟨a0, a1⟩
  clear KC hb2 HB HV HA
  cases hb : bitsB b with
  | false =>
    have hce : ce = 1 := HK1.out.2 hb
    have HE : Hid (wdsE ⟨b, l⟩ = 1 ∧ wdsN ⟨b, l⟩ = 0) := by
      have : wdsE ⟨b, l⟩ = 1 := by unfold wdsE; rw [if_neg (by simp [hb])]
      exact ⟨this, by unfold wdsN; rw [this]; rfl⟩
    subst hce
    clear hb HK1 HK2
    go_wp2
    exact bodyPost_ret (v := .tuple #[.int .i64 0, .int .i64 1]) (by simp [results, Try.results10, go_sem]) rfl ⟨by rw [HE.out.1, HE.out.2], HB2.out⟩
  | true =>
    have hc1 : (ce == 1) = false := by
      rw [beq_eq_false_iff_ne]; intro q
      have := HK1.out.1 q
      rw [hb] at this; cases this
    cases hio : ioB ⟨b, l⟩ with
    | false =>
      have hce : ce = 19 := HK2.out.2 ⟨hb, hio⟩
      have HE : Hid (wdsE ⟨b, l⟩ = 19 ∧ wdsN ⟨b, l⟩ = 0) := by
        have : wdsE ⟨b, l⟩ = 19 := by unfold wdsE; rw [if_pos (by simp [hb]), if_neg (by simp [hio])]
        exact ⟨this, by unfold wdsN; rw [this]; rfl⟩
      subst hce
      clear hb HK1 HK2 hio hc1
      go_wp2
      exact bodyPost_ret (v := .tuple #[.int .i64 0, .int .i64 19]) (by simp [results, Try.results10, go_sem]) rfl ⟨by rw [HE.out.1, HE.out.2], HB2.out⟩
    | true =>
      have hc2 : (ce == 19) = false := by
        rw [beq_eq_false_iff_ne]; intro q
        have := (HK2.out.1 q).2
        rw [hio] at this; cases this
      have KL := fun w => canBeLaid_any b ao l.length c w
      by_cases h24 : b ≤ 24
      · have HE : Hid (wdsE ⟨b, l⟩ = 0 ∧ wdsN ⟨b, l⟩ = (szN ⟨b, l⟩ : Int)) := by
          have : wdsE ⟨b, l⟩ = 0 := by unfold wdsE; rw [if_pos (by simp [hb]), if_pos (by simp [hio]), if_pos h24]
          exact ⟨this, by unfold wdsN; rw [if_pos this]⟩
        have h0 : 0 ≤ b := by unfold bitsB at hb; simp at hb; exact hb.1
        have KS := fun w h => size_any16 b (.slice ao l.length c) l w h h0 h24 HL.out
        rw [decide_eq_true h24] at KL
        clear hb HK1 HK2 hio h24
        go_wp2_with fail
        refine (KL _).mono ?_
        rintro e w3 ⟨rfl, hb3⟩
        have HB3 := hid13 (keepb hb3 HB2.out)
        have KS3 := KS _ (HV2.out.below hb3)
        have a0 := keepc hb3 a0
        have a1 := keepc hb3 a1
        clear KL hb3 KS HB2 HV2 HA2
        go_wp2_with fail
        refine KS3.mono ?_
        rintro e w4 ⟨rfl, hb4⟩
        have HB4 := hid13 (keepb hb4 HB3.out)
        clear KS3 hb4 HB3
        go_wp2
        exact bodyPost_ret (v := .tuple #[.int .i64 (szN ⟨b, l⟩ : Int), .int .i64 0]) (by simp [results, Try.results10, go_sem]) rfl ⟨by rw [HE.out.1, HE.out.2], HB4.out⟩
      · have HE : Hid (wdsE ⟨b, l⟩ = 18 ∧ wdsN ⟨b, l⟩ = 0) := by
          have : wdsE ⟨b, l⟩ = 18 := by unfold wdsE; rw [if_pos (by simp [hb]), if_pos (by simp [hio]), if_neg h24]
          exact ⟨this, by unfold wdsN; rw [this]; rfl⟩
        rw [decide_eq_false h24] at KL
        clear hb HK1 HK2 hio h24
        go_wp2_with fail
        refine (KL _).mono ?_
        rintro e w3 ⟨rfl, hb3⟩
        have HB3 := hid13 (keepb hb3 HB2.out)
        clear KL hb3 HB2 HV2 HA2
        go_wp2
        exact bodyPost_ret (v := .tuple #[.int .i64 0, .int .i64 18]) (by simp [results, Try.results10, go_sem]) rfl ⟨by rw [HE.out.1, HE.out.2], HB3.out⟩
end Go.Proofs.Ytkchalaicmanfaa
namespace Go.Proofs.Ytkchalaicmanfaa
open Go.RowKit Go.Shelf
set_option linter.unusedSimpArgs false
set_option linter.unusedVariables false
attribute [local go_sem] Oper.semAt_some

theorem io_grow {d : Nde} (h : IoOk d) : ∀ (i : Nat) (r : Rn), d.r[i]? = some r → i ≤ r.f.toNat
  | 0, r, hr => by omega
  | i + 1, r, hr => by
    have hil := (List.getElem?_eq_some_iff.mp hr).1
    have h1 := io_grow h i _ (List.getElem?_eq_getElem (by omega))
    have h2 := h.rise i (i + 1) _ r (by omega) (List.getElem?_eq_getElem (by omega)) hr
    omega
theorem io_most {d : Nde} (h : IoOk d) : d.r.length ≤ 2 ^ d.b.toNat := by
  have hp := List.length_pos_iff.mpr h.ne
  have h1 := io_grow h (d.r.length - 1) _ (List.getElem?_eq_getElem (by omega))
  have h2 := h.lt _ (List.getElem_mem (l := d.r) (n := d.r.length - 1) (by omega))
  omega
theorem mw_pow (n : Nat) : mwN n ≤ 2 ^ n := by
  unfold mwN
  split
  · exact Nat.one_le_two_pow
  · exact Nat.pow_le_pow_right (by decide) (by omega)
theorem sz_bound {d : Nde} (h : IoOk d) (h0 : 0 ≤ d.b) : szN d ≤ 2 * 2 ^ d.b.toNat + 2 ∧ d.r.length ≤ szN d := by
  have h1 := io_most h
  have h2 := mw_pow d.b.toNat
  unfold szN
  by_cases hz : d.b = 0
  · rw [if_pos hz]
    have := io_zero h hz
    omega
  · rw [if_neg hz]; omega
theorem sh64two (n : Nat) (h : n ≤ 24) : Op.shift .shl .i64 2 .i64 (n : Int) = pure (.int .i64 ((2 * 2 ^ n : Nat) : Int)) := by
  rw [shift_shl_any .i64 .i64 2 _ (by omega)]
  have : ∀ m : Fin 25, IntKind.i64.wrap (2 * 2 ^ min ((m.val : Nat) : Int).toNat IntKind.i64.bits) = ((2 * 2 ^ m.val : Nat) : Int) := by decide +kernel
  exact congrArg (fun z => pure (Value.int .i64 z)) (this ⟨n, by omega⟩)
set_option maxRecDepth 20000 in
set_option maxHeartbeats 8000000 in
theorem emitBound_any (b : Int) (v : Value) (l : List Rn) (w : World) (hv : RwN w v l) :
    Calls Try.prog 8 #[.agg #[.int .i64 b, v]] w fun e w' => e = .returned (.bool true) ∧ Below w.heap.size w w' := by
  obtain ⟨ao, c, hvf, -⟩ := id hv
  have q1 := bl1 w (.cells #[.int .i64 b, v] 24)
  have HV := hid13 hv
  have HA := hid13 (atd_new w b v 24)
  have HB := hid13 q1
  have KK := fun w => known16 w
  subst hvf
  clear hv q1
  go_enter Try.func8, Try.ntmps8
  go_wp2_with fail
  refine (KK _).mono ?_
  rintro e w1 ⟨rfl, hb1⟩
  have HB1 := hid13 (keepb hb1 HB.out)
  obtain ⟨a0, a1⟩ := HA.out.below hb1
  clear KK hb1 HB HA
  by_cases h3 : (3000 : Int) < (l.length : Int)
  · go_wp2
    go_ret
    exact ⟨rfl, HB1.out⟩
  · have KW := words_any16 b (.slice ao l.length c) l w1 (HV.out.below HB1.out) (by omega)
    have HBnd : Hid (wdsE ⟨b, l⟩ = 0 → wdsN ⟨b, l⟩ = (szN ⟨b, l⟩ : Int) ∧ 0 ≤ b ∧ b ≤ 24 ∧ IoOk ⟨b, l⟩) := hid13 (fun h => by
      refine ⟨by unfold wdsN; rw [if_pos h], ?_⟩
      unfold wdsE at h
      by_cases c1 : bitsB b = true
      · rw [if_pos c1] at h
        by_cases c2 : ioB ⟨b, l⟩ = true
        · rw [if_pos c2] at h
          by_cases c3 : b ≤ 24
          · unfold bitsB at c1
            simp at c1
            exact ⟨c1.1, c3, io_ok c2⟩
          · rw [if_neg c3] at h; cases h
        · rw [if_neg c2] at h; cases h
      · rw [if_neg c1] at h; cases h)
    have HN0 : Hid (wdsE ⟨b, l⟩ ≠ 0 → wdsN ⟨b, l⟩ = 0) := hid13 (fun h => by unfold wdsN; rw [if_neg h])
    generalize wdsE ⟨b, l⟩ = we at *
    generalize wdsN ⟨b, l⟩ = wn at *
    go_wp2_with fail
    refine KW.mono ?_
    rintro e w2 ⟨rfl, hb2⟩
    have HB2 := hid13 (keepb hb2 HB1.out)
    have a0 := keepc hb2 a0
    have a1 := keepc hb2 a1
    clear KW hb2 HB1
    by_cases he : we = 0
    · obtain ⟨e1, e2, e3, e4⟩ := HBnd.out he
      have hbd := sz_bound e4 e2
      dsimp only at hbd
      subst he
      obtain ⟨nb, rfl⟩ : ∃ nb : Nat, b = (nb : Int) := ⟨b.toNat, by omega⟩
      rw [Int.toNat_natCast] at hbd
      have sh := sh64two nb (by omega)
      obtain ⟨pw, hpw⟩ : ∃ pw : Nat, pw = 2 * 2 ^ nb := ⟨_, rfl⟩
      have hpl : pw ≤ 33554432 := by
        rw [hpw]
        have := Nat.pow_le_pow_right (n := 2) (by decide) (show nb ≤ 24 by omega)
        omega
      rw [← hpw] at sh hbd
      generalize szN ⟨(nb : Int), l⟩ = sz at *
      subst e1
      have m2 : IntKind.i64.wrap ((pw : Int) + 2) = (pw : Int) + 2 := by rw [IntKind.wrap_i64]; omega
      have c1 : (sz : Int) ≤ (pw : Int) + 2 := by omega
      have c2 : (l.length : Int) ≤ (sz : Int) := by omega
      clear HBnd HN0 hbd hpw hpl e2 e3 e4
      go_wp2
      go_ret
      exact ⟨rfl, HB2.out⟩
    · have hn := HN0.out he
      subst hn
      have hne : (we != 0) = true := by simpa using he
      clear HBnd HN0 he
      go_wp2
      go_ret
      exact ⟨rfl, HB2.out⟩
end Go.Proofs.Ytkchalaicmanfaa
namespace Go.Proofs.Ytkchalaicmanfaa
open Go.ChangeShapes Go.WideShapes Go.ChangeAt Go.RowKit Go.Joins
set_option linter.unusedSimpArgs false
set_option linter.unusedVariables false

theorem Try.laidOut : laidOutB Try.prog = true := by kernel_rfl
theorem Try.cells16a : Try.prog.cellsOf 3 = 1 := by kernel_rfl
theorem Try.cells16b : Try.prog.cellsOf 4 = 1 := by kernel_rfl
theorem Try.cells16c : Try.prog.cellsOf 60 = 1 := by kernel_rfl
theorem Try.cells16d : Try.prog.cellsOf 62 = 2 := by kernel_rfl
theorem Try.cells16e : Try.prog.cellsOf 64 = 4 := by kernel_rfl
theorem Try.cells16f : Try.prog.cellsOf 22 = 1 := by kernel_rfl
theorem Try.cells16g : Try.prog.cellsOf 24 = 2 := by kernel_rfl
theorem i64_bd16 {a : Int} (h : (Lit.int .i64 a).wf = true) : -9223372036854775808 ≤ a ∧ a ≤ 9223372036854775807 := by
  simp [Lit.wf, IntKind.min, IntKind.max, IntKind.signed, IntKind.bits] at h; omega
theorem u64_bd16 {a : Int} (h : (Lit.int .u64 a).wf = true) : 0 ≤ a ∧ a < 18446744073709551616 := by
  simp [Lit.wf, IntKind.min, IntKind.max, IntKind.signed, IntKind.bits] at h; omega
theorem mk_word16 (a b : Int) (ha : 0 ≤ a ∧ a < 18446744073709551616) (hb : 0 ≤ b ∧ b < 18446744073709551616) : ∃ x : BitVec 128, hI x = a ∧ lI x = b := by
  refine ⟨BitVec.ofNat 128 (a.toNat * 18446744073709551616 + b.toNat), ?_, ?_⟩
  · rw [hIN, BitVec.toNat_ofNat]
    have : (2 : Nat) ^ 128 = 340282366920938463463374607431768211456 := by decide
    omega
  · rw [lIN, BitVec.toNat_ofNat]
    have : (2 : Nat) ^ 128 = 340282366920938463463374607431768211456 := by decide
    omega
section
variable {H : Type} {enc : TypeId × Value → H} {w : World} {spare : Nat → Bool} {held : Bool}
set_option maxRecDepth 100000 in
theorem trod_word16 {n : Nat} {c0 c1 : Value} {x : DataW H × List MemPlace} (h : DataW.trod enc Try.prog w 0 spare held n 62 [c0, c1] = some x) :
    ∃ a b : Int, c0 = .int .u64 a ∧ c1 = .int .u64 b ∧ (Lit.int .u64 a).wf = true ∧ (Lit.int .u64 b).wf = true := by
  obtain ⟨u0, u1, m, hu, _, g0, g1⟩ := trod_struct2 Try.underlying62 h
  have g0' : DataW.trod enc Try.prog w 0 spare held m 60 [c0] = some u0 := by simpa [Value.cells, Try.cells16c] using g0
  have g1' : DataW.trod enc Try.prog w 0 spare held m 60 [c1] = some u1 := by simpa [Value.cells, Try.cells16c] using g1
  obtain ⟨a, ea, rfl, wa⟩ := DataW.trod_int Try.underlying60 g0'
  obtain ⟨b, eb, rfl, wb⟩ := DataW.trod_int Try.underlying60 g1'
  simp at ea eb
  exact ⟨a, b, ea, eb, wa, wb⟩
set_option maxRecDepth 100000 in
theorem trod_run16 {n : Nat} {c0 c1 c2 c3 : Value} {x : DataW H × List MemPlace} (h : DataW.trod enc Try.prog w 0 spare held n 64 [c0, c1, c2, c3] = some x) :
    ∃ r : Rn, c0 = .int .u64 (hI r.f) ∧ c1 = .int .u64 (lI r.f) ∧ c2 = .bool r.k ∧ c3 = .int .i64 r.n ∧ -9223372036854775808 ≤ r.n ∧ r.n ≤ 9223372036854775807 := by
  obtain ⟨y0, y1, y2, m, hx, _, h0, h1, h2⟩ := Deep.trod_struct3 Try.underlying64 h
  have h0' : DataW.trod enc Try.prog w 0 spare held m 62 [c0, c1] = some y0 := by simpa [Value.cells, Try.cells16d, Try.cells16b, Try.cells16a] using h0
  have h1' : DataW.trod enc Try.prog w 0 spare held m 4 [c2] = some y1 := by simpa [Value.cells, Try.cells16d, Try.cells16b, Try.cells16a] using h1
  have h2' : DataW.trod enc Try.prog w 0 spare held m 3 [c3] = some y2 := by simpa [Value.cells, Try.cells16d, Try.cells16b, Try.cells16a] using h2
  obtain ⟨a, b, rfl, rfl, wa, wb⟩ := trod_word16 h0'
  obtain ⟨k, ek, -⟩ := DataW.trod_bool Try.underlying4 h1'
  obtain ⟨z, ez, -, wz⟩ := DataW.trod_int Try.underlying3 h2'
  simp at ek ez
  subst ek ez
  obtain ⟨f, e1, e2⟩ := mk_word16 a b (u64_bd16 wa) (u64_bd16 wb)
  have := i64_bd16 wz
  exact ⟨⟨f, k, z⟩, by rw [e1], by rw [e2], rfl, rfl, this.1, this.2⟩
def rowN (l : List Rn) : List Value := l.flatMap fun r => [.int .u64 (hI r.f), .int .u64 (lI r.f), .bool r.k, .int .i64 r.n]
theorem rowN_len (l : List Rn) : (rowN l).length = l.length * 4 := by
  unfold rowN
  induction l with
  | nil => rfl
  | cons r l ih => rw [List.flatMap_cons, List.length_append, ih]; simp; omega
theorem rowN_at : ∀ (l : List Rn) (j : Nat) (u : Value), (rowN l)[j]? = some u → ∃ r, l[j / 4]? = some r ∧ [Value.int .u64 (hI r.f), .int .u64 (lI r.f), .bool r.k, .int .i64 r.n][j % 4]? = some u
  | [], j, u, h => by simp [rowN] at h
  | r :: l, j, u, h => by
    by_cases hj : j < 4
    · refine ⟨r, by rw [Nat.div_eq_of_lt hj]; rfl, ?_⟩
      rw [Nat.mod_eq_of_lt hj]
      unfold rowN at h
      rw [List.flatMap_cons, List.getElem?_append_left (by simpa using hj)] at h
      exact h
    · obtain ⟨k, rfl⟩ : ∃ k, j = k + 4 := ⟨j - 4, by omega⟩
      unfold rowN at h
      rw [List.flatMap_cons, List.getElem?_append_right (by simp)] at h
      obtain ⟨r', h1, h2⟩ := rowN_at l k u (by simpa [rowN] using h)
      refine ⟨r', by rw [show (k + 4) / 4 = k / 4 + 1 by omega]; simpa using h1, by rw [show (k + 4) % 4 = k % 4 by omega]; exact h2⟩
def rlD (d : DataW H) (n : Nat) : Prop := n = 0 ∨ ∃ el sp, d = .slice el sp ∧ el.length = n
set_option maxRecDepth 100000 in
theorem trod_runs16 {fuel : Nat} {va : Value} {x : DataW H × List MemPlace} (hf : DataW.trod enc Try.prog w 0 (fun _ => true) held fuel 22 [va] = some x) :
    ∃ l : List Rn, RwN w va l ∧ RowA w 4 va l.length (rowN l) ∧ (∀ r ∈ l, -9223372036854775808 ≤ r.n ∧ r.n ≤ 9223372036854775807) ∧ rlD x.1 l.length := by
  rcases Deep.open_slice Try.underlying22 hf with ⟨hcs, hx⟩ | ⟨a, len', cap', m, n, D, Pl, hcs, _, hl, hm, hmm, hx, hel⟩
  · simp at hcs
    subst hcs
    exact ⟨[], ⟨none, 0, rfl, Nat.le_refl _, .inl rfl⟩, ⟨rfl, none, 0, rfl, Nat.le_refl _, .inl ⟨rfl, rfl, rfl⟩⟩, (fun _ h => by cases h), .inl rfl⟩
  · simp at hcs
    subst hcs
    simp at hmm
    subst hmm
    rw [Try.cells16e] at hel
    haveI : Inhabited Rn := ⟨⟨0#128, false, 0⟩⟩
    obtain ⟨f, hf⟩ := Deep.choose_lt (α := Rn) (n := len') (p := fun i r => (w.cell? (a.add (i * 4)) = some (.int .u64 (hI r.f)) ∧ w.cell? (a.add (i * 4 + 1)) = some (.int .u64 (lI r.f)) ∧ w.cell? (a.add (i * 4 + 2)) = some (.bool r.k) ∧ w.cell? (a.add (i * 4 + 3)) = some (.int .i64 r.n)) ∧ -9223372036854775808 ≤ r.n ∧ r.n ≤ 9223372036854775807) (fun i hi => by
      obtain ⟨cs', h1, h2⟩ := hel i (by omega)
      obtain ⟨_, hlen, hc⟩ := World.cells?_some h1
      match cs', hlen with
      | [c0, c1, c2, c3], _ =>
        obtain ⟨r, e0, e1, e2, e3, hb⟩ := trod_run16 h2
        subst e0 e1 e2 e3
        refine ⟨r, ⟨?_, ?_, ?_, ?_⟩, hb⟩
        · have := hc 0 (by simp); simpa [Deep.add_add] using this
        · have := hc 1 (by simp); simpa [Deep.add_add] using this
        · have := hc 2 (by simp); simpa [Deep.add_add] using this
        · have := hc 3 (by simp); simpa [Deep.add_add] using this)
    have hlen : ((List.range len').map f).length = len' := by simp
    have hget : ∀ j r, ((List.range len').map f)[j]? = some r → j < len' ∧ r = f j := by
      intro j r hj
      have hlt : j < len' := by have := (List.getElem?_eq_some_iff.1 hj).1; simpa using this
      rw [List.getElem?_map, List.getElem?_range hlt] at hj
      simp only [Option.map_some, Option.some.injEq] at hj
      exact ⟨hlt, hj.symm⟩
    refine ⟨(List.range len').map f, ⟨some a, m, by rw [hlen], by rw [hlen]; exact hl, ?_⟩, ⟨by rw [rowN_len], some a, m, by rw [hlen], by rw [hlen]; exact hl, .inr ⟨a, rfl, fun j u hj => ?_⟩⟩, ?_, ?_⟩
    · by_cases hz : len' = 0
      · subst hz
        exact .inl (by simp)
      · have h00 := (hf 0 (by omega)).1.1
        have ea : a = ⟨a.block, a.off, none⟩ := by
          have : a.add (0 * 4) = a := by simp [Addr.add]
          rw [this] at h00
          exact spot9 h00
        refine .inr ⟨a.block, a.off, by rw [← ea], fun j r hj => ?_⟩
        obtain ⟨hlt, rfl⟩ := hget j r hj
        obtain ⟨⟨g0, g1, g2, g3⟩, -⟩ := hf j hlt
        rw [ea, addA] at g0 g1 g2 g3
        exact ⟨g0, g1, g2, g3⟩
    · obtain ⟨r, h1, h2⟩ := rowN_at _ j u hj
      obtain ⟨hlt, rfl⟩ := hget _ r h1
      obtain ⟨⟨g0, g1, g2, g3⟩, -⟩ := hf _ hlt
      have hm4 : j % 4 = 0 ∨ j % 4 = 1 ∨ j % 4 = 2 ∨ j % 4 = 3 := by omega
      rcases hm4 with q | q | q | q <;> rw [q] at h2 <;> simp at h2 <;> subst h2
      · rwa [show j / 4 * 4 = j by omega] at g0
      · rwa [show j / 4 * 4 + 1 = j by omega] at g1
      · rwa [show j / 4 * 4 + 2 = j by omega] at g2
      · rwa [show j / 4 * 4 + 3 = j by omega] at g3
    · intro r hr
      obtain ⟨i, hi⟩ := List.getElem?_of_mem hr
      obtain ⟨hlt, rfl⟩ := hget i r hi
      exact (hf i hlt).2
    · rw [hx]
      exact .inr ⟨_, _, rfl, by simp⟩
structure NdIn (w : World) (b : Int) (v : Value) (l : List Rn) : Prop where
  r : RwN w v l
  a : RowA w 4 v l.length (rowN l)
  b : -9223372036854775808 ≤ b ∧ b ≤ 9223372036854775807
  n : ∀ r ∈ l, -9223372036854775808 ≤ r.n ∧ r.n ≤ 9223372036854775807
set_option maxRecDepth 100000 in
theorem trod_node16 {n : Nat} {c0 c1 : Value} {x : DataW H × List MemPlace} (h : DataW.trod enc Try.prog w 0 (fun _ => true) held n 24 [c0, c1] = some x) :
    ∃ (b : Int) (l : List Rn), c0 = .int .i64 b ∧ NdIn w b c1 l ∧ ∃ y0 y1, x.1 = .agg [y0, y1] ∧ rlD y1 l.length := by
  obtain ⟨y0, y1, m, hx, _, h0, h1⟩ := trod_struct2 Try.underlying24 h
  have h0' : DataW.trod enc Try.prog w 0 (fun _ => true) held m 3 [c0] = some y0 := by simpa [Value.cells, Try.cells16a, Try.cells16f] using h0
  have h1' : DataW.trod enc Try.prog w 0 (fun _ => true) held m 22 [c1] = some y1 := by simpa [Value.cells, Try.cells16a, Try.cells16f] using h1
  obtain ⟨z, ez, -, wz⟩ := DataW.trod_int Try.underlying3 h0'
  simp at ez
  subst ez
  obtain ⟨l, k1, k2, k3, k4⟩ := trod_runs16 h1'
  exact ⟨z, l, rfl, ⟨k1, k2, i64_bd16 wz, k3⟩, _, _, by rw [hx], k4⟩
set_option maxRecDepth 100000 in
theorem open_node16 {r : Reach} {b0 : Nat} {v : Value} {d : DataW H} {p : List MemPlace} (hv : Value.okWide Try.prog w r b0 24 v) (h : DataW.Trod enc Try.prog w 0 (fun _ => true) held 24 v d p) :
    ∃ (b : Int) (va : Value) (l : List Rn), v = .agg #[.int .i64 b, va] ∧ NdIn w b va l := by
  obtain ⟨cs, rfl, hsz⟩ := okWide_struct Try.underlying24 hv
  obtain ⟨c0, va, rfl⟩ := array2 (hsz.trans Try.cells16g)
  obtain ⟨fuel, hf⟩ := h
  obtain ⟨b, l, rfl, hn, -⟩ := trod_node16 (by simpa [Value.cells] using hf)
  exact ⟨b, va, l, rfl, hn⟩
end
end Go.Proofs.Ytkchalaicmanfaa
