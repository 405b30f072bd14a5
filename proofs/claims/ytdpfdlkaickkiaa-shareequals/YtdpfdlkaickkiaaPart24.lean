/-
  Part 24 of the proof: 1 texts, one behind the other.
-/
import Derived.Test.YtdpfdlkaickkiaaPart23
import Derived.Test.YtdpfdlkaickkiaaPart9
import Derived.Test.YtdpfdlkaickkiaaPart8
namespace Go.Proofs.Ytdpfdlkaickkiaa
open Go.RowKit Go.Shelf
set_option linter.unusedSimpArgs false
set_option linter.unusedVariables false
attribute [local go_sem] Oper.semAt_some

set_option maxRecDepth 100000 in
set_option maxHeartbeats 8000000 in
theorem shareEquals_any (v : Value) (V : List Value) (L : List Nde) (a b : Int) (w : World) (hN : NdsIn w v V L) (hl : L.length ≤ 140737488355328) (hr : ∀ d ∈ L, d.r.length ≤ 140737488355328) (ha0 : -9223372036854775808 ≤ a) (ha1 : a ≤ 9223372036854775807) (hb0 : -9223372036854775808 ≤ b) (hb1 : b ≤ 9223372036854775807) :
    Calls Try.prog 4 #[v, .int .i64 a, .int .i64 b] w fun e w' => e = .returned (.bool true) ∧ Below w.heap.size w w' := by
  have HV := hid13 hN.d
  have HT := hid13 (nds_tw hN)
  have HL : Hid (L.length ≤ 140737488355328 ∧ ∀ d ∈ L, d.r.length ≤ 140737488355328) := ⟨hl, hr⟩
  obtain ⟨ao, c, hvf, -, -⟩ := id hN.d
  subst hvf
  clear hN hl hr ha0 ha1 hb0 hb1
  go_enter Try.func4, Try.ntmps4
  go_wp2_with fail
  refine (known12 _).mono ?_
  rintro e w1 ⟨rfl, hb1⟩
  have HB1 := hid13 hb1
  have KS := few_any _ L w1 (HV.out.below hb1) HL.out.1 HL.out.2
  have HFw := hid13 (fun h => few_ok (L := L) h)
  generalize fewB L = fb at *
  clear hb1
  go_wp2_with fail
  refine KS.mono ?_
  rintro e w2 ⟨rfl, hw⟩
  subst hw
  clear KS
  cases fb with
  | false =>
    go_wp2
    go_ret
    exact ⟨rfl, HB1.out⟩
  | true =>
  have hf := HFw.out rfl
  have HS : Hid (L.length ≤ 1000000 ∧ ∀ d ∈ L, d.r.length ≤ 1000000) := ⟨by omega, fun d hd => by have := hf.2 d hd; omega⟩
  have KT := twin_any _ L w2 (HT.out.below HB1.out) HS.out.1 HS.out.2
  have K1 := fun u W (h : RwD W u L) => equal12_any u L a b W h HS.out.1 HS.out.2
  have K2 := fun u W (h : RwD W u L) => requal12 u L a b W h HS.out.1 HS.out.2
  generalize eqR L a b = R at *
  generalize eqE L a b = E at *
  have HK1 := hid13 K1
  have HK2 := hid13 K2
  clear hf HFw HL K1 K2
  go_wp2_with fail
  refine KT.mono ?_
  rintro e w3 ⟨v3, rfl, hR3, hb3⟩
  obtain ⟨o3, c3, hv3, -, -⟩ := id hR3
  subst hv3
  have HB3 := hid13 (keepb hb3 HB1.out)
  have K1 := HK1.out _ _ hR3
  clear KT hR3 hb3 HB1 HK1
  go_wp2_with fail
  refine K1.mono ?_
  rintro e w4 ⟨rfl, hb4⟩
  have HB4 := hid13 (keepb hb4 HB3.out)
  have K2 := HK2.out _ _ (HV.out.below HB4.out)
  clear K1 hb4 HB3 HK2
  go_wp2_with fail
  refine K2.mono ?_
  rintro e w5 ⟨rfl, hb5⟩
  have HB5 := hid13 (keepb hb5 HB4.out)
  clear K2 hb5 HB4
  cases R <;> (
    go_wp2
    go_ret
    exact ⟨rfl, HB5.out⟩)
end Go.Proofs.Ytdpfdlkaickkiaa
