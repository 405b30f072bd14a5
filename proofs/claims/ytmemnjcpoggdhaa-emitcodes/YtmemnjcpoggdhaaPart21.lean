/-
  Part 21 of the proof: 2 texts, one behind the other.
-/
import Derived.Test.YtmemnjcpoggdhaaPart19
import Derived.Test.YtmemnjcpoggdhaaPart20
namespace Go.Proofs.Ytmemnjcpoggdhaa
open Go.RowKit Go.Shelf
set_option linter.unusedSimpArgs false
set_option linter.unusedVariables false
attribute [local go_sem] Oper.semAt_some

theorem wdB_lt (o k : Nat) (m : List (BitVec 32)) : ∀ b ∈ wdB o k m, b < 256 := by
  intro b hb
  unfold wdB at hb
  obtain ⟨x, -, hx⟩ := List.mem_flatMap.mp hb
  exact by4_lt _ x.isLt b hx
theorem rnB_lt (P : List Int) : ∀ (l : List Rn) (p : Nat), ∀ b ∈ rnB P p l, b < 256
  | [], p, b, h => by cases h
  | r :: l, p, b, h => by
    rcases List.mem_append.mp h with h | h
    · exact wdB_lt _ _ _ b h
    · exact rnB_lt P l _ b h
theorem ndB_lt (P : List Int) (a : Nat) (d : Nde) : ∀ b ∈ ndB P a d, b < 256 := by
  intro b h
  unfold ndB at h
  split at h
  · exact rnB_lt _ _ _ b h
  · rcases List.mem_append.mp h with h | h
    · exact wdB_lt _ _ _ b h
    · rcases List.mem_append.mp h with h | h
      · exact wdB_lt _ _ _ b h
      · exact rnB_lt _ _ _ b h
theorem lyB_lt (L : List Nde) (P : List Int) : ∀ (o : List Int) (a : Nat), ∀ b ∈ lyB L P a o, b < 256
  | [], a, b, h => by cases h
  | k :: o, a, b, h => by
    rcases List.mem_append.mp h with h | h
    · exact ndB_lt _ _ _ b h
    · exact lyB_lt L P o _ b h
theorem codB_lt (F : Int) (L : List Nde) (most : Int) : ∀ b ∈ codB F L most, b < 256 := by
  unfold codB
  split
  · exact lyB_lt _ _ _ _
  · intro b h; cases h
end Go.Proofs.Ytmemnjcpoggdhaa
namespace Go.Proofs.Ytmemnjcpoggdhaa
open Go.RowKit Go.Shelf
set_option linter.unusedSimpArgs false
set_option linter.unusedVariables false
attribute [local go_sem] Oper.semAt_some

set_option maxRecDepth 100000 in
set_option maxHeartbeats 16000000 in
theorem emitCodes_any (F : Int) (v : Value) (V : List Value) (L : List Nde) (most : Int) (w : World) (hF0 : -9223372036854775808 ≤ F) (hF1 : F ≤ 9223372036854775807) (hN : NdsIn w v V L) (hl : L.length ≤ 140737488355328) (hr : ∀ d ∈ L, d.r.length ≤ 140737488355328) (hm0 : -9223372036854775808 ≤ most) (hm1 : most ≤ 9223372036854775807) :
    Calls Try.prog 4 #[.int .i64 F, v, .int .i64 most] w fun e w' => e = .returned (.bool true) ∧ Below w.heap.size w w' := by
  have HV := hid13 hN.d
  have HT := hid13 (nds_tw hN)
  have HL : Hid (L.length ≤ 140737488355328 ∧ ∀ d ∈ L, d.r.length ≤ 140737488355328) := ⟨hl, hr⟩
  obtain ⟨ao, c, hvf, -, -⟩ := id hN.d
  subst hvf
  clear hN hl hr hF0 hF1 hm0 hm1
  go_enter Try.func4, Try.ntmps4
  go_wp2_with fail
  refine (known16 _).mono ?_
  rintro e w1 ⟨rfl, hb1⟩
  have HB1 := hid13 hb1
  have KS := small_any _ L w1 (HV.out.below hb1) HL.out.1 HL.out.2
  clear hb1
  go_wp2_with fail
  refine KS.mono ?_
  rintro e w2 ⟨t, rfl, ht, hw⟩
  subst hw
  clear KS
  cases t with
  | false =>
    go_wp2
    go_ret
    exact ⟨rfl, HB1.out⟩
  | true =>
  have hf := few_ok (ht rfl)
  have HS : Hid (L.length ≤ 1000000 ∧ ∀ d ∈ L, d.r.length ≤ 1000000) := ⟨by omega, fun d hd => by have := hf.2 d hd; omega⟩
  have HG : Hid (L.length ≤ 1000000000 ∧ ∀ d ∈ L, d.r.length ≤ 1000000000) := ⟨by omega, fun d hd => by have := hf.2 d hd; omega⟩
  have KT := twin_any _ L w2 (HT.out.below HB1.out) HS.out.1 HS.out.2
  have K1 := fun u W (h : RwD W u L) => code_any F u L most W h HG.out.1 HG.out.2
  have K2 := fun u W (h : RwD W u L) => rcode16_any F u L most W h HS.out.1 HS.out.2
  have HX := hid13 (codB_lt F L most)
  generalize codB F L most = B at *
  generalize codE F L most = E at *
  have HK1 := hid13 K1
  have HK2 := hid13 K2
  clear hf ht HL HG K1 K2
  go_wp2_with fail
  refine KT.mono ?_
  rintro e w3 ⟨v3, rfl, hR3, hb3⟩
  obtain ⟨o3, c3, hv3, -, -⟩ := id hR3
  subst hv3
  have HR3 := hid13 hR3
  have HB3 := hid13 (keepb hb3 HB1.out)
  have K1 := HK1.out _ _ hR3
  clear KT hR3 hb3 HB1 HK1
  go_wp2_with fail
  refine K1.mono ?_
  rintro e w4 ⟨v4, rfl, ho4, hb4⟩
  obtain ⟨o4, c4, hv4⟩ := own_form ho4
  subst hv4
  have HR4 := hid13 (HR3.out.below hb4)
  have HB4 := hid13 (keepb hb4 HB3.out)
  have HO4 := hid13 (own_rwx ho4)
  have K2 := HK2.out _ _ (HV.out.below HB4.out)
  clear K1 ho4 hb4 HB3 HR3 HK2
  go_wp2_with fail
  refine K2.mono ?_
  rintro e w5 ⟨v5, rfl, ho5, hb5⟩
  obtain ⟨o5, c5, hv5⟩ := own_form ho5
  subst hv5
  have HB5 := hid13 (keepb hb5 HB4.out)
  have HO4 := hid13 (HO4.out.below hb5)
  have HO5 := hid13 (own_rwx ho5)
  have K5 := same_any16 _ _ L w5 (HR4.out.below hb5) (HV.out.below HB5.out) HS.out.1 HS.out.2
  clear K2 ho5 hb5 HB4 HR4
  go_wp2_with fail
  refine K5.mono ?_
  rintro e w8 ⟨rfl, hb8⟩
  have HB8 := hid13 (keepb hb8 HB5.out)
  have cv1 := conv13 (HO4.out.below hb8) HX.out
  have cv2 := conv13 (HO5.out.below hb8) HX.out
  obtain ⟨S, hS⟩ : ∃ S, S = bsA B := ⟨_, rfl⟩
  rw [← hS] at cv1 cv2
  clear K5 hb8 HB5 hS
  go_wp2
  go_ret
  exact ⟨rfl, HB8.out⟩
end Go.Proofs.Ytmemnjcpoggdhaa
