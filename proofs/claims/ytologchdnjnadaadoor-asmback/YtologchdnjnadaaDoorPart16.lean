/-
  Part 16 of the proof: 2 texts, one behind the other.
-/
import Derived.Test.YtologchdnjnadaaDoorPart13
import Derived.Test.YtologchdnjnadaaDoorPart15
/-
  AsmLines: of two texts that are read, both together are read as both codes.
-/
namespace Go.Proofs.YtologchdnjnadaaDoor
open Go.RowKit
set_option linter.unusedSimpArgs false
set_option linter.unusedVariables false

/-- A fault's variable. -/
def AtF (w : World) (B : Nat) (a b c : Int) : Prop := w.heap[B]? = some (.cells #[.int .i64 a, .int .i64 b, .int .i64 c] 31)
theorem AtF.below {w w' : World} {B : Nat} {a b c : Int} (h : AtF w B a b c) (hb : Below w.heap.size w w') : AtF w' B a b c := (hb.block B (lt_b15 h)).trans h
theorem atf_new (w : World) (a b c : Int) : AtF (w.alloc (.cells #[.int .i64 a, .int .i64 b, .int .i64 c] 31)) w.heap.size a b c := Array.getElem?_push_size
theorem AtF.c {w : World} {B : Nat} {a b c : Int} (h : AtF w B a b c) : w.cell? ⟨B, 0, none⟩ = some (.int .i64 a) ∧ w.cell? ⟨B, 1, none⟩ = some (.int .i64 b) ∧ w.cell? ⟨B, 2, none⟩ = some (.int .i64 c) := ⟨at_b15 h 0 _ rfl, at_b15 h 1 _ rfl, at_b15 h 2 _ rfl⟩
theorem AtF.set1 {w : World} {B : Nat} {a b c : Int} (h : AtF w B a b c) (b' : Int) : AtF (w.setCell ⟨B, 1, none⟩ (.int .i64 b')) B a b' c := by simpa [AtF] using set_b15 (o := 1) h (.int .i64 b')
theorem AtF.set_other {w : World} {B B' o : Nat} {a b c : Int} {u : Value} (h : AtF w B a b c) (hn : B ≠ B') : AtF (w.setCell ⟨B', o, none⟩ u) B a b c := by unfold AtF; rw [Below.heap_setCell _ ⟨B', o, none⟩ _ _ (by intro e; exact hn e)]; exact h
theorem last_of {s : ByteArray} (h0 : 0 < s.size) (h : byteAt s (s.size - 1) = 10) : (fr s 0).getLast? = some 10 := by
  obtain ⟨c, h1, h2⟩ := fr_cons (s := s) (k := s.size - 1) (by omega)
  have hl : (fr s 0).length = s.size := by rw [fr_len]; omega
  rw [List.getLast?_eq_getElem?, hl, ← List.head?_drop, fr_drop, Nat.zero_add, h1]
  show some c = some 10
  rw [h2] at h
  congr 1
  exact UInt8.toNat_inj.1 (by have : (10 : UInt8).toNat = 10 := rfl; omega)
set_option maxRecDepth 20000 in
set_option maxHeartbeats 16000000 in
theorem asmLines_any (s t : ByteArray) (w : World) (hN : Nm w) (hP : Pow15 w) :
    Calls Tryd.prog 7 #[.string s, .string t] w fun e w' => e = .returned (.bool true) ∧ Below w.heap.size w w' := by
  have K0 := known15 w hN hP
  have HN := hid13 hN
  clear hN hP
  by_cases h1 : 16384 < s.size
  · have h1i : (16384 : Int) < (s.size : Int) := by omega
    go_enter Tryd.func7, Tryd.ntmps7
    go_wp2_with fail
    refine K0.mono ?_
    rintro e W0 ⟨rfl, hb0⟩
    have HB0 := hid13 hb0
    clear K0 hb0
    go_wp2
    go_ret
    exact ⟨rfl, HB0.out⟩
  by_cases h2 : 16384 < t.size
  · have h1i : ¬ (16384 : Int) < (s.size : Int) := by omega
    have h2i : (16384 : Int) < (t.size : Int) := by omega
    go_enter Tryd.func7, Tryd.ntmps7
    go_wp2_with fail
    refine K0.mono ?_
    rintro e W0 ⟨rfl, hb0⟩
    have HB0 := hid13 hb0
    clear K0 hb0
    go_wp2
    go_ret
    exact ⟨rfl, HB0.out⟩
  have h1i : ¬ (16384 : Int) < (s.size : Int) := by omega
  have h2i : ¬ (16384 : Int) < (t.size : Int) := by omega
  have hEm : s.toList.isEmpty = decide (s.size = 0) := by
    rw [ByteArray.toList_eq]
    have : s.data.toList.length = s.size := rfl
    cases hq : s.data.toList with
    | nil => rw [hq] at this; rw [← this]; rfl
    | cons c l => rw [hq] at this; rw [← this]; rfl
  by_cases h0 : s.size = 0
  · have hE : s.toList.isEmpty = true := by rw [hEm, decide_eq_true h0]
    have HW : Hid (Whl (fr s 0)) := hid13 (whl_of _ _ (Nat.le_refl _) (.inl (fr_nil h0.symm)))
    clear hEm
    have HSZ : Hid (s.size ≤ 16384 ∧ t.size ≤ 16384 ∧ s.size ≤ 16385) := hid13 ⟨by omega, by omega, by omega⟩
    have hSl : (fr s 0).length = s.size := by rw [fr_len]; omega
    have K1 := fun W (hb : Below w.heap.size w W) => parse15_any s W (by have := HSZ.out; omega) (HN.out.below hb)
    have K2 := fun W (hb : Below w.heap.size w W) => parse15_any t W (by have := HSZ.out; omega) (HN.out.below hb)
    have K3 := fun W (hb : Below w.heap.size w W) => parse15_any (s ++ t) W (by have := HSZ.out; rw [ByteArray.size_append]; omega) (HN.out.below hb)
    rw [fr0_app] at K3
    have hO1 := paP_ok (fr s 0)
    have hO2 := paP_ok (fr t 0)
    have hl1 := paP_len (fr s 0)
    have hl2 := paP_len (fr t 0)
    have hO3 := paP_ok (fr s 0 ++ fr t 0)
    have hcs := lines_case HW.out (fr t 0)
    rw [hSl] at hl1
    rw [fr_len, Nat.sub_zero] at hl2
    generalize hp1 : paP (fr s 0) = p1 at *
    generalize hp2 : paP (fr t 0) = p2 at *
    generalize hp3 : paP (fr s 0 ++ fr t 0) = p3 at *
    obtain ⟨A1, E1, L1, C1⟩ := p1
    obtain ⟨A2, E2, L2, C2⟩ := p2
    obtain ⟨A3, E3, L3, C3⟩ := p3
    have hcs' := hcs A1 A2 A3 E1 L1 C1 E2 L2 C2 E3 L3 C3 rfl rfl rfl
    rw [fr_len, Nat.sub_zero] at hcs'
    have HCS := hid13 hcs'
    have HO : Hid ((∀ b ∈ A1, b < 256) ∧ (∀ b ∈ A2, b < 256) ∧ (∀ b ∈ A3, b < 256)) := ⟨hO1, hO2, hO3⟩
    have HAL : Hid (A1.length ≤ 2097156 * s.size ∧ A2.length ≤ 2097156 * t.size) := ⟨hl1, hl2⟩
    simp only at K1 K2 K3
    have HCN : Hid (cnt10 (fr s 0) ≤ s.size) := hid13 (by have := cnt_le (fr s 0); rw [hSl] at this; exact this)
    have HFL := hid13 hSl
    have HK1 := hid13 K1
    have HK2 := hid13 K2
    have HK3 := hid13 K3
    clear hO1 hO2 hO3 hl1 hl2 hcs hcs' hp1 hp2 hp3 hSl K1 K2 K3
    clear h0 h1 h2
    go_enter Tryd.func7, Tryd.ntmps7
    go_wp2_with fail
    refine K0.mono ?_
    rintro e W0 ⟨rfl, hb0⟩
    have HB0 := hid13 hb0
    clear K0 hb0
    go_wp2_with fail
    go_loopg [5, 6] s.size (fun g x5 x6 wr => ∃ j : Nat, j + g = s.size ∧ x6 = .int .i64 (j : Int) ∧ x5 = .int .i64 ((cnt10 ((fr s 0).take j) : Nat) : Int) ∧ wr = W0)
    case atStart => exact ⟨0, by omega, rfl, rfl, rfl⟩
    case round =>
      obtain ⟨j, hj, rfl, rfl, rfl⟩ := hrel
      by_cases hlt : j < s.size
      · have hli : (j : Int) < (s.size : Int) := by omega
        have hb := byteAt_in s j hlt
        obtain ⟨c, hc1, hc2⟩ := fr_cons (s := s) (k := j) hlt
        have htk : (fr s 0).take (j + 1) = (fr s 0).take j ++ [c] := by
          have h1 : (fr s 0)[j]? = some c := by
            have : (fr s 0).drop j = c :: fr s (j + 1) := by rw [fr_drop, Nat.zero_add]; exact hc1
            rw [← List.head?_drop, this]; rfl
          rw [List.take_add_one, h1]; rfl
        have hcn : cnt10 ((fr s 0).take (j + 1)) = cnt10 ((fr s 0).take j) + (if c = 10 then 1 else 0) := by
          rw [htk]; unfold cnt10; rw [List.countP_append, List.countP_singleton]; by_cases q : c = 10 <;> simp [q]
        have hcl := cnt_le ((fr s 0).take j)
        rw [List.length_take] at hcl
        have m1 : IntKind.i64.wrap ((j : Int) + 1) = (j : Int) + 1 := by rw [IntKind.wrap_i64]; have := HSZ.out; omega
        have HJ : Hid (j + gk = s.size ∧ j < s.size) := ⟨hj, hlt⟩
        have HCj := hid13 hcn
        generalize cnt10 ((fr s 0).take j) = n at *
        have m2 : IntKind.i64.wrap ((n : Int) + 1) = (n : Int) + 1 := by rw [IntKind.wrap_i64]; have := HSZ.out; omega
        by_cases q : c = 10
        · subst q
          have hc3 : byteAt s j = 10 := hc2
          rw [hc3] at hb
          clear hc1 hc2 htk hcn hcl hc3 hj
          go_wp2
          go_roundg (gk - 1)
          case measure => have := HJ.out; omega
          case rel => exact ⟨j + 1, by have := HJ.out; omega, rfl, by rw [HCj.out]; simp, rfl⟩
        · have hc3 : (byteAt s j == 10) = false := by
            rw [beq_eq_false_iff_ne, hc2]
            intro e
            exact q (UInt8.toNat_inj.1 (by have : (10 : UInt8).toNat = 10 := rfl; omega))
          generalize byteAt s j = bb at *
          clear hc1 hc2 htk hcn hcl hj
          go_wp2
          go_roundg (gk - 1)
          case measure => have := HJ.out; omega
          case rel => exact ⟨j + 1, by have := HJ.out; omega, rfl, by rw [HCj.out, if_neg q]; rfl, rfl⟩
      · have hli : ¬ (j : Int) < (s.size : Int) := by omega
        obtain rfl : j = s.size := by omega
        have hct : (fr s 0).take s.size = fr s 0 := by rw [← HFL.out]; exact List.take_length
        rw [hct]
        have HCNT : Hid (cnt10 (fr s 0) ≤ s.size) := HCN
        generalize cnt10 (fr s 0) = nl at *
        have K1' := HK1.out _ HB0.out
        clear hct hlt
        go_wp2_with fail
        refine K1'.mono ?_
        rintro e w1 ⟨v1, rfl, ho1, hb1⟩
        have HB1 := hid13 (keepb hb1 HB0.out)
        have HV1 := hid13 (own_rwx ho1)
        obtain ⟨a1, c1, hv1⟩ := own_form ho1
        subst hv1
        clear K1' ho1 hb1
        have q1 := bl1 w1 (.cells #[.int .i64 E1, .int .i64 L1, .int .i64 C1] 31)
        have K2' := HK2.out _ (keepb q1 HB1.out)
        have HQ1 := hid13 q1
        have HX1 := hid13 (atf_new w1 E1 L1 C1)
        clear q1
        go_wp2_with fail
        refine K2'.mono ?_
        rintro e w2 ⟨v2, rfl, ho2, hb2⟩
        have HB2 := hid13 (keepb hb2 (keepb HQ1.out HB1.out))
        have HV2 := hid13 (own_rwx ho2)
        have HX1b := hid13 (HX1.out.below hb2)
        have HV1b := hid13 ((HV1.out.below HQ1.out).below hb2)
        obtain ⟨a2, c2, hv2⟩ := own_form ho2
        subst hv2
        clear K2' ho2 hb2 HX1 HV1 HQ1 HB1
        have q2 := bl1 w2 (.cells #[.int .i64 E2, .int .i64 L2, .int .i64 C2] 31)
        have K3' := HK3.out _ (keepb q2 HB2.out)
        have hsz9 : ¬ 9223372036854775807 < s.size + t.size := by have := HSZ.out; omega
        have HQ2 := hid13 q2
        have HX2 := hid13 (atf_new w2 E2 L2 C2)
        clear q2
        go_wp2_with fail
        refine K3'.mono ?_
        rintro e w3 ⟨v3, rfl, ho3, hb3⟩
        have q3 := bl1 w3 (.cells #[.int .i64 E3, .int .i64 L3, .int .i64 C3] 31)
        have HB3 := hid13 (keepb q3 (keepb hb3 (keepb HQ2.out HB2.out)))
        have HV3 := hid13 ((own_rwx ho3).below q3)
        have HX2b := hid13 ((HX2.out.below hb3).below q3)
        have HX1c := hid13 (((HX1b.out.below HQ2.out).below hb3).below q3)
        have HX3 := hid13 (atf_new w3 E3 L3 C3)
        have HV2b := hid13 (((HV2.out.below HQ2.out).below hb3).below q3)
        have HV1c := hid13 (((HV1b.out.below HQ2.out).below hb3).below q3)
        have HNE : Hid (w.heap.size ≤ w2.heap.size ∧ w2.heap.size < w3.heap.size) := hid13 (by
          have h2 := lt_b15 (HX2.out.below hb3)
          have h4 := HB2.out.size
          exact ⟨h4, h2⟩)
        obtain ⟨a3, c3, hv3⟩ := own_form ho3
        subst hv3
        clear K3' ho3 hb3 HX2 HV2 HQ2 HB2 HX1b HV1b q3
        have hF := fun (a b c a' b' c' : Int) (W : World) => eqF_run a b c a' b' c' W
        rcases HCS.out with ⟨e1, g1, g2, g3, g4, g5⟩ | ⟨e1, g1, g2, e2, g3, g4, g5, g6, g7, g8⟩ | ⟨e1, g1, g2, e2, g3, g4, g5, g6, g7, g8⟩
        · subst g3 g4 g5
          subst g1
          subst g2
          generalize hW3 : w3.alloc (.cells #[.int .i64 E3, .int .i64 L3, .int .i64 C3] 31) = W3 at *
          obtain ⟨x0, x1, x2⟩ := HX1c.out.c
          obtain ⟨y0, y1, y2⟩ := HX2b.out.c
          obtain ⟨z0, z1, z2⟩ := HX3.out.c
          have f1 := fun W => hF E3 L3 C3 0 0 0 W
          have f2 := fun W => hF E3 L3 C3 E3 L3 C3 W
          rw [show (E3 == 0) = false by rw [beq_eq_false_iff_ne]; exact e1, Bool.false_and, Bool.false_and] at f1
          simp only [beq_self_eq_true, Bool.and_self] at f2
          clear hF e1 HCS
          go_wp2
          go_ret
          exact ⟨rfl, HB3.out⟩
        · subst e1 g1 g2 g3 g4 g6
          generalize hW3 : w3.alloc (.cells #[.int .i64 E3, .int .i64 L3, .int .i64 C3] 31) = W3 at *
          obtain ⟨x0, x1, x2⟩ := HX1c.out.c
          obtain ⟨y0, y1, y2⟩ := HX2b.out.c
          obtain ⟨z0, z1, z2⟩ := HX3.out.c
          have f1 := fun W => hF 0 0 0 0 0 0 W
          have f2 := fun W => hF E3 L2 C3 0 0 0 W
          have f3 := fun W => hF E3 L3 C3 E3 L3 C3 W
          rw [show (E3 == 0) = false by rw [beq_eq_false_iff_ne]; exact e2, Bool.false_and, Bool.false_and] at f2
          simp only [beq_self_eq_true, Bool.and_self] at f1 f3
          have m3 : IntKind.i64.wrap (L2 + (nl : Int)) = L3 := by rw [IntKind.wrap_i64, g5]; have := HCNT.out; have := HSZ.out; omega
          have HY2 := hid13 (HX2b.out.set1 L3)
          have HY3 : Hid (AtF (W3.setCell ⟨w2.heap.size, 1, none⟩ (.int .i64 L3)) w3.heap.size E3 L3 C3) := hid13 (HX3.out.set_other (by have := HNE.out; omega))
          obtain ⟨u0, u1, u2⟩ := HY2.out.c
          obtain ⟨v0, v1, v2⟩ := HY3.out.c
          have fr1 := fr_b15 (j := 1) HX2b.out
          have HB4 := hid13 (HB3.out.setCell (p := ⟨w2.heap.size, 1, none⟩) HNE.out.1 (.int .i64 L3))
          clear hF e2 HCS g5 g7 g8
          go_wp2
          go_ret
          exact ⟨rfl, HB4.out⟩
        · subst e1 g1 g2 e2 g3 g4 g5 g6 g7 g8
          obtain ⟨x0, x1, x2⟩ := HX1c.out.c
          obtain ⟨y0, y1, y2⟩ := HX2b.out.c
          have f1 := fun W => hF 0 0 0 0 0 0 W
          simp only [beq_self_eq_true, Bool.and_self] at f1
          have k1 := conv13 HV1c.out HO.out.1
          have k2 := conv13 HV2b.out HO.out.2.1
          have k3 := conv13 HV3.out HO.out.2.2
          rw [bsA_app] at k3
          have hz9 : ¬ 9223372036854775807 < (bsA A1).size + (bsA A2).size := by rw [bsA_size, bsA_size]; have := HAL.out; have := HSZ.out; omega
          generalize bsA A1 = B1 at *
          generalize bsA A2 = B2 at *
          rw [List.length_append] at k3
          clear hF HCS
          go_wp2
          go_ret
          exact ⟨rfl, HB3.out⟩
  have hE : s.toList.isEmpty = false := by rw [hEm, decide_eq_false h0]
  obtain ⟨z, hz⟩ : ∃ z, s.size = z + 1 := ⟨s.size - 1, by omega⟩
  have mz : IntKind.i64.wrap ((s.size : Int) - 1) = (z : Int) := by rw [IntKind.wrap_i64]; omega
  have hzi : (z : Int) < (s.size : Int) := by omega
  have hzlt : z < s.size := by omega
  have hzb := byteAt_in s z hzlt
  have HZ : Hid (s.size = z + 1) := hid13 hz
  by_cases hl : byteAt s z = 10
  · have HW : Hid (Whl (fr s 0)) := hid13 (whl_of _ _ (Nat.le_refl _) (.inr (last_of (by omega) (by rw [show s.size - 1 = z by omega]; exact hl))))
    rw [hl] at hzb
    clear hEm
    have HSZ : Hid (s.size ≤ 16384 ∧ t.size ≤ 16384 ∧ s.size ≤ 16385) := hid13 ⟨by omega, by omega, by omega⟩
    have hSl : (fr s 0).length = s.size := by rw [fr_len]; omega
    have K1 := fun W (hb : Below w.heap.size w W) => parse15_any s W (by have := HSZ.out; omega) (HN.out.below hb)
    have K2 := fun W (hb : Below w.heap.size w W) => parse15_any t W (by have := HSZ.out; omega) (HN.out.below hb)
    have K3 := fun W (hb : Below w.heap.size w W) => parse15_any (s ++ t) W (by have := HSZ.out; rw [ByteArray.size_append]; omega) (HN.out.below hb)
    rw [fr0_app] at K3
    have hO1 := paP_ok (fr s 0)
    have hO2 := paP_ok (fr t 0)
    have hl1 := paP_len (fr s 0)
    have hl2 := paP_len (fr t 0)
    have hO3 := paP_ok (fr s 0 ++ fr t 0)
    have hcs := lines_case HW.out (fr t 0)
    rw [hSl] at hl1
    rw [fr_len, Nat.sub_zero] at hl2
    generalize hp1 : paP (fr s 0) = p1 at *
    generalize hp2 : paP (fr t 0) = p2 at *
    generalize hp3 : paP (fr s 0 ++ fr t 0) = p3 at *
    obtain ⟨A1, E1, L1, C1⟩ := p1
    obtain ⟨A2, E2, L2, C2⟩ := p2
    obtain ⟨A3, E3, L3, C3⟩ := p3
    have hcs' := hcs A1 A2 A3 E1 L1 C1 E2 L2 C2 E3 L3 C3 rfl rfl rfl
    rw [fr_len, Nat.sub_zero] at hcs'
    have HCS := hid13 hcs'
    have HO : Hid ((∀ b ∈ A1, b < 256) ∧ (∀ b ∈ A2, b < 256) ∧ (∀ b ∈ A3, b < 256)) := ⟨hO1, hO2, hO3⟩
    have HAL : Hid (A1.length ≤ 2097156 * s.size ∧ A2.length ≤ 2097156 * t.size) := ⟨hl1, hl2⟩
    simp only at K1 K2 K3
    have HCN : Hid (cnt10 (fr s 0) ≤ s.size) := hid13 (by have := cnt_le (fr s 0); rw [hSl] at this; exact this)
    have HFL := hid13 hSl
    have HK1 := hid13 K1
    have HK2 := hid13 K2
    have HK3 := hid13 K3
    clear hO1 hO2 hO3 hl1 hl2 hcs hcs' hp1 hp2 hp3 hSl K1 K2 K3
    clear h0 h1 h2 hz hl
    go_enter Tryd.func7, Tryd.ntmps7
    go_wp2_with fail
    refine K0.mono ?_
    rintro e W0 ⟨rfl, hb0⟩
    have HB0 := hid13 hb0
    clear K0 hb0
    go_wp2_with fail
    go_loopg [5, 6] s.size (fun g x5 x6 wr => ∃ j : Nat, j + g = s.size ∧ x6 = .int .i64 (j : Int) ∧ x5 = .int .i64 ((cnt10 ((fr s 0).take j) : Nat) : Int) ∧ wr = W0)
    case atStart => exact ⟨0, by omega, rfl, rfl, rfl⟩
    case round =>
      obtain ⟨j, hj, rfl, rfl, rfl⟩ := hrel
      by_cases hlt : j < s.size
      · have hli : (j : Int) < (s.size : Int) := by omega
        have hb := byteAt_in s j hlt
        obtain ⟨c, hc1, hc2⟩ := fr_cons (s := s) (k := j) hlt
        have htk : (fr s 0).take (j + 1) = (fr s 0).take j ++ [c] := by
          have h1 : (fr s 0)[j]? = some c := by
            have : (fr s 0).drop j = c :: fr s (j + 1) := by rw [fr_drop, Nat.zero_add]; exact hc1
            rw [← List.head?_drop, this]; rfl
          rw [List.take_add_one, h1]; rfl
        have hcn : cnt10 ((fr s 0).take (j + 1)) = cnt10 ((fr s 0).take j) + (if c = 10 then 1 else 0) := by
          rw [htk]; unfold cnt10; rw [List.countP_append, List.countP_singleton]; by_cases q : c = 10 <;> simp [q]
        have hcl := cnt_le ((fr s 0).take j)
        rw [List.length_take] at hcl
        have m1 : IntKind.i64.wrap ((j : Int) + 1) = (j : Int) + 1 := by rw [IntKind.wrap_i64]; have := HSZ.out; omega
        have HJ : Hid (j + gk = s.size ∧ j < s.size) := ⟨hj, hlt⟩
        have HCj := hid13 hcn
        generalize cnt10 ((fr s 0).take j) = n at *
        have m2 : IntKind.i64.wrap ((n : Int) + 1) = (n : Int) + 1 := by rw [IntKind.wrap_i64]; have := HSZ.out; omega
        by_cases q : c = 10
        · subst q
          have hc3 : byteAt s j = 10 := hc2
          rw [hc3] at hb
          clear hc1 hc2 htk hcn hcl hc3 hj
          go_wp2
          go_roundg (gk - 1)
          case measure => have := HJ.out; omega
          case rel => exact ⟨j + 1, by have := HJ.out; omega, rfl, by rw [HCj.out]; simp, rfl⟩
        · have hc3 : (byteAt s j == 10) = false := by
            rw [beq_eq_false_iff_ne, hc2]
            intro e
            exact q (UInt8.toNat_inj.1 (by have : (10 : UInt8).toNat = 10 := rfl; omega))
          generalize byteAt s j = bb at *
          clear hc1 hc2 htk hcn hcl hj
          go_wp2
          go_roundg (gk - 1)
          case measure => have := HJ.out; omega
          case rel => exact ⟨j + 1, by have := HJ.out; omega, rfl, by rw [HCj.out, if_neg q]; rfl, rfl⟩
      · have hli : ¬ (j : Int) < (s.size : Int) := by omega
        obtain rfl : j = s.size := by omega
        have hct : (fr s 0).take s.size = fr s 0 := by rw [← HFL.out]; exact List.take_length
        rw [hct]
        have HCNT : Hid (cnt10 (fr s 0) ≤ s.size) := HCN
        generalize cnt10 (fr s 0) = nl at *
        have K1' := HK1.out _ HB0.out
        clear hct hlt
        go_wp2_with fail
        refine K1'.mono ?_
        rintro e w1 ⟨v1, rfl, ho1, hb1⟩
        have HB1 := hid13 (keepb hb1 HB0.out)
        have HV1 := hid13 (own_rwx ho1)
        obtain ⟨a1, c1, hv1⟩ := own_form ho1
        subst hv1
        clear K1' ho1 hb1
        have q1 := bl1 w1 (.cells #[.int .i64 E1, .int .i64 L1, .int .i64 C1] 31)
        have K2' := HK2.out _ (keepb q1 HB1.out)
        have HQ1 := hid13 q1
        have HX1 := hid13 (atf_new w1 E1 L1 C1)
        clear q1
        go_wp2_with fail
        refine K2'.mono ?_
        rintro e w2 ⟨v2, rfl, ho2, hb2⟩
        have HB2 := hid13 (keepb hb2 (keepb HQ1.out HB1.out))
        have HV2 := hid13 (own_rwx ho2)
        have HX1b := hid13 (HX1.out.below hb2)
        have HV1b := hid13 ((HV1.out.below HQ1.out).below hb2)
        obtain ⟨a2, c2, hv2⟩ := own_form ho2
        subst hv2
        clear K2' ho2 hb2 HX1 HV1 HQ1 HB1
        have q2 := bl1 w2 (.cells #[.int .i64 E2, .int .i64 L2, .int .i64 C2] 31)
        have K3' := HK3.out _ (keepb q2 HB2.out)
        have hsz9 : ¬ 9223372036854775807 < s.size + t.size := by have := HSZ.out; omega
        have HQ2 := hid13 q2
        have HX2 := hid13 (atf_new w2 E2 L2 C2)
        clear q2
        go_wp2_with fail
        refine K3'.mono ?_
        rintro e w3 ⟨v3, rfl, ho3, hb3⟩
        have q3 := bl1 w3 (.cells #[.int .i64 E3, .int .i64 L3, .int .i64 C3] 31)
        have HB3 := hid13 (keepb q3 (keepb hb3 (keepb HQ2.out HB2.out)))
        have HV3 := hid13 ((own_rwx ho3).below q3)
        have HX2b := hid13 ((HX2.out.below hb3).below q3)
        have HX1c := hid13 (((HX1b.out.below HQ2.out).below hb3).below q3)
        have HX3 := hid13 (atf_new w3 E3 L3 C3)
        have HV2b := hid13 (((HV2.out.below HQ2.out).below hb3).below q3)
        have HV1c := hid13 (((HV1b.out.below HQ2.out).below hb3).below q3)
        have HNE : Hid (w.heap.size ≤ w2.heap.size ∧ w2.heap.size < w3.heap.size) := hid13 (by
          have h2 := lt_b15 (HX2.out.below hb3)
          have h4 := HB2.out.size
          exact ⟨h4, h2⟩)
        obtain ⟨a3, c3, hv3⟩ := own_form ho3
        subst hv3
        clear K3' ho3 hb3 HX2 HV2 HQ2 HB2 HX1b HV1b q3
        have hF := fun (a b c a' b' c' : Int) (W : World) => eqF_run a b c a' b' c' W
        rcases HCS.out with ⟨e1, g1, g2, g3, g4, g5⟩ | ⟨e1, g1, g2, e2, g3, g4, g5, g6, g7, g8⟩ | ⟨e1, g1, g2, e2, g3, g4, g5, g6, g7, g8⟩
        · subst g3 g4 g5
          subst g1
          subst g2
          generalize hW3 : w3.alloc (.cells #[.int .i64 E3, .int .i64 L3, .int .i64 C3] 31) = W3 at *
          obtain ⟨x0, x1, x2⟩ := HX1c.out.c
          obtain ⟨y0, y1, y2⟩ := HX2b.out.c
          obtain ⟨z0, z1, z2⟩ := HX3.out.c
          have f1 := fun W => hF E3 L3 C3 0 0 0 W
          have f2 := fun W => hF E3 L3 C3 E3 L3 C3 W
          rw [show (E3 == 0) = false by rw [beq_eq_false_iff_ne]; exact e1, Bool.false_and, Bool.false_and] at f1
          simp only [beq_self_eq_true, Bool.and_self] at f2
          clear hF e1 HCS
          go_wp2
          go_ret
          exact ⟨rfl, HB3.out⟩
        · subst e1 g1 g2 g3 g4 g6
          generalize hW3 : w3.alloc (.cells #[.int .i64 E3, .int .i64 L3, .int .i64 C3] 31) = W3 at *
          obtain ⟨x0, x1, x2⟩ := HX1c.out.c
          obtain ⟨y0, y1, y2⟩ := HX2b.out.c
          obtain ⟨z0, z1, z2⟩ := HX3.out.c
          have f1 := fun W => hF 0 0 0 0 0 0 W
          have f2 := fun W => hF E3 L2 C3 0 0 0 W
          have f3 := fun W => hF E3 L3 C3 E3 L3 C3 W
          rw [show (E3 == 0) = false by rw [beq_eq_false_iff_ne]; exact e2, Bool.false_and, Bool.false_and] at f2
          simp only [beq_self_eq_true, Bool.and_self] at f1 f3
          have m3 : IntKind.i64.wrap (L2 + (nl : Int)) = L3 := by rw [IntKind.wrap_i64, g5]; have := HCNT.out; have := HSZ.out; omega
          have HY2 := hid13 (HX2b.out.set1 L3)
          have HY3 : Hid (AtF (W3.setCell ⟨w2.heap.size, 1, none⟩ (.int .i64 L3)) w3.heap.size E3 L3 C3) := hid13 (HX3.out.set_other (by have := HNE.out; omega))
          obtain ⟨u0, u1, u2⟩ := HY2.out.c
          obtain ⟨v0, v1, v2⟩ := HY3.out.c
          have fr1 := fr_b15 (j := 1) HX2b.out
          have HB4 := hid13 (HB3.out.setCell (p := ⟨w2.heap.size, 1, none⟩) HNE.out.1 (.int .i64 L3))
          clear hF e2 HCS g5 g7 g8
          go_wp2
          go_ret
          exact ⟨rfl, HB4.out⟩
        · subst e1 g1 g2 e2 g3 g4 g5 g6 g7 g8
          obtain ⟨x0, x1, x2⟩ := HX1c.out.c
          obtain ⟨y0, y1, y2⟩ := HX2b.out.c
          have f1 := fun W => hF 0 0 0 0 0 0 W
          simp only [beq_self_eq_true, Bool.and_self] at f1
          have k1 := conv13 HV1c.out HO.out.1
          have k2 := conv13 HV2b.out HO.out.2.1
          have k3 := conv13 HV3.out HO.out.2.2
          rw [bsA_app] at k3
          have hz9 : ¬ 9223372036854775807 < (bsA A1).size + (bsA A2).size := by rw [bsA_size, bsA_size]; have := HAL.out; have := HSZ.out; omega
          generalize bsA A1 = B1 at *
          generalize bsA A2 = B2 at *
          rw [List.length_append] at k3
          clear hF HCS
          go_wp2
          go_ret
          exact ⟨rfl, HB3.out⟩
  · have hl' : (byteAt s z == 10) = false := by rw [beq_eq_false_iff_ne]; exact hl
    have hl2 : (byteAt s z != 10) = true := by simpa using hl
    obtain ⟨S, hS⟩ : ∃ S : ByteArray, s ++ ⟨#[10]⟩ = S := ⟨_, rfl⟩
    have hSz : S.size = s.size + 1 := by rw [← hS, ByteArray.size_append]; rfl
    have HW : Hid (Whl (fr S 0)) := hid13 (whl_of _ _ (Nat.le_refl _) (.inr (by rw [← hS, fr0_app]; exact List.getLast?_concat)))
    have hs9 : ¬ 9223372036854775807 < s.size + 1 := by omega
    generalize byteAt s z = bz at *
    clear hEm
    have HSZ : Hid (s.size ≤ 16384 ∧ t.size ≤ 16384 ∧ S.size ≤ 16385) := hid13 ⟨by omega, by omega, by omega⟩
    have hSl : (fr S 0).length = S.size := by rw [fr_len]; omega
    have K1 := fun W (hb : Below w.heap.size w W) => parse15_any S W (by have := HSZ.out; omega) (HN.out.below hb)
    have K2 := fun W (hb : Below w.heap.size w W) => parse15_any t W (by have := HSZ.out; omega) (HN.out.below hb)
    have K3 := fun W (hb : Below w.heap.size w W) => parse15_any (S ++ t) W (by have := HSZ.out; rw [ByteArray.size_append]; omega) (HN.out.below hb)
    rw [fr0_app] at K3
    have hO1 := paP_ok (fr S 0)
    have hO2 := paP_ok (fr t 0)
    have hl1 := paP_len (fr S 0)
    have hl2 := paP_len (fr t 0)
    have hO3 := paP_ok (fr S 0 ++ fr t 0)
    have hcs := lines_case HW.out (fr t 0)
    rw [hSl] at hl1
    rw [fr_len, Nat.sub_zero] at hl2
    generalize hp1 : paP (fr S 0) = p1 at *
    generalize hp2 : paP (fr t 0) = p2 at *
    generalize hp3 : paP (fr S 0 ++ fr t 0) = p3 at *
    obtain ⟨A1, E1, L1, C1⟩ := p1
    obtain ⟨A2, E2, L2, C2⟩ := p2
    obtain ⟨A3, E3, L3, C3⟩ := p3
    have hcs' := hcs A1 A2 A3 E1 L1 C1 E2 L2 C2 E3 L3 C3 rfl rfl rfl
    rw [fr_len, Nat.sub_zero] at hcs'
    have HCS := hid13 hcs'
    have HO : Hid ((∀ b ∈ A1, b < 256) ∧ (∀ b ∈ A2, b < 256) ∧ (∀ b ∈ A3, b < 256)) := ⟨hO1, hO2, hO3⟩
    have HAL : Hid (A1.length ≤ 2097156 * S.size ∧ A2.length ≤ 2097156 * t.size) := ⟨hl1, hl2⟩
    simp only at K1 K2 K3
    have HCN : Hid (cnt10 (fr S 0) ≤ S.size) := hid13 (by have := cnt_le (fr S 0); rw [hSl] at this; exact this)
    have HFL := hid13 hSl
    have HK1 := hid13 K1
    have HK2 := hid13 K2
    have HK3 := hid13 K3
    clear hO1 hO2 hO3 hl1 hl2 hcs hcs' hp1 hp2 hp3 hSl K1 K2 K3
    clear h0 h1 h2 hz hl hSz
    go_enter Tryd.func7, Tryd.ntmps7
    go_wp2_with fail
    refine K0.mono ?_
    rintro e W0 ⟨rfl, hb0⟩
    have HB0 := hid13 hb0
    clear K0 hb0
    go_wp2_with fail
    go_loopg [5, 6] S.size (fun g x5 x6 wr => ∃ j : Nat, j + g = S.size ∧ x6 = .int .i64 (j : Int) ∧ x5 = .int .i64 ((cnt10 ((fr S 0).take j) : Nat) : Int) ∧ wr = W0)
    case atStart => exact ⟨0, by omega, rfl, rfl, rfl⟩
    case round =>
      obtain ⟨j, hj, rfl, rfl, rfl⟩ := hrel
      by_cases hlt : j < S.size
      · have hli : (j : Int) < (S.size : Int) := by omega
        have hb := byteAt_in S j hlt
        obtain ⟨c, hc1, hc2⟩ := fr_cons (s := S) (k := j) hlt
        have htk : (fr S 0).take (j + 1) = (fr S 0).take j ++ [c] := by
          have h1 : (fr S 0)[j]? = some c := by
            have : (fr S 0).drop j = c :: fr S (j + 1) := by rw [fr_drop, Nat.zero_add]; exact hc1
            rw [← List.head?_drop, this]; rfl
          rw [List.take_add_one, h1]; rfl
        have hcn : cnt10 ((fr S 0).take (j + 1)) = cnt10 ((fr S 0).take j) + (if c = 10 then 1 else 0) := by
          rw [htk]; unfold cnt10; rw [List.countP_append, List.countP_singleton]; by_cases q : c = 10 <;> simp [q]
        have hcl := cnt_le ((fr S 0).take j)
        rw [List.length_take] at hcl
        have m1 : IntKind.i64.wrap ((j : Int) + 1) = (j : Int) + 1 := by rw [IntKind.wrap_i64]; have := HSZ.out; omega
        have HJ : Hid (j + gk = S.size ∧ j < S.size) := ⟨hj, hlt⟩
        have HCj := hid13 hcn
        generalize cnt10 ((fr S 0).take j) = n at *
        have m2 : IntKind.i64.wrap ((n : Int) + 1) = (n : Int) + 1 := by rw [IntKind.wrap_i64]; have := HSZ.out; omega
        by_cases q : c = 10
        · subst q
          have hc3 : byteAt S j = 10 := hc2
          rw [hc3] at hb
          clear hc1 hc2 htk hcn hcl hc3 hj
          go_wp2
          go_roundg (gk - 1)
          case measure => have := HJ.out; omega
          case rel => exact ⟨j + 1, by have := HJ.out; omega, rfl, by rw [HCj.out]; simp, rfl⟩
        · have hc3 : (byteAt S j == 10) = false := by
            rw [beq_eq_false_iff_ne, hc2]
            intro e
            exact q (UInt8.toNat_inj.1 (by have : (10 : UInt8).toNat = 10 := rfl; omega))
          generalize byteAt S j = bb at *
          clear hc1 hc2 htk hcn hcl hj
          go_wp2
          go_roundg (gk - 1)
          case measure => have := HJ.out; omega
          case rel => exact ⟨j + 1, by have := HJ.out; omega, rfl, by rw [HCj.out, if_neg q]; rfl, rfl⟩
      · have hli : ¬ (j : Int) < (S.size : Int) := by omega
        obtain rfl : j = S.size := by omega
        have hct : (fr S 0).take S.size = fr S 0 := by rw [← HFL.out]; exact List.take_length
        rw [hct]
        have HCNT : Hid (cnt10 (fr S 0) ≤ S.size) := HCN
        generalize cnt10 (fr S 0) = nl at *
        have K1' := HK1.out _ HB0.out
        clear hct hlt
        go_wp2_with fail
        refine K1'.mono ?_
        rintro e w1 ⟨v1, rfl, ho1, hb1⟩
        have HB1 := hid13 (keepb hb1 HB0.out)
        have HV1 := hid13 (own_rwx ho1)
        obtain ⟨a1, c1, hv1⟩ := own_form ho1
        subst hv1
        clear K1' ho1 hb1
        have q1 := bl1 w1 (.cells #[.int .i64 E1, .int .i64 L1, .int .i64 C1] 31)
        have K2' := HK2.out _ (keepb q1 HB1.out)
        have HQ1 := hid13 q1
        have HX1 := hid13 (atf_new w1 E1 L1 C1)
        clear q1
        go_wp2_with fail
        refine K2'.mono ?_
        rintro e w2 ⟨v2, rfl, ho2, hb2⟩
        have HB2 := hid13 (keepb hb2 (keepb HQ1.out HB1.out))
        have HV2 := hid13 (own_rwx ho2)
        have HX1b := hid13 (HX1.out.below hb2)
        have HV1b := hid13 ((HV1.out.below HQ1.out).below hb2)
        obtain ⟨a2, c2, hv2⟩ := own_form ho2
        subst hv2
        clear K2' ho2 hb2 HX1 HV1 HQ1 HB1
        have q2 := bl1 w2 (.cells #[.int .i64 E2, .int .i64 L2, .int .i64 C2] 31)
        have K3' := HK3.out _ (keepb q2 HB2.out)
        have hsz9 : ¬ 9223372036854775807 < S.size + t.size := by have := HSZ.out; omega
        have HQ2 := hid13 q2
        have HX2 := hid13 (atf_new w2 E2 L2 C2)
        clear q2
        go_wp2_with fail
        refine K3'.mono ?_
        rintro e w3 ⟨v3, rfl, ho3, hb3⟩
        have q3 := bl1 w3 (.cells #[.int .i64 E3, .int .i64 L3, .int .i64 C3] 31)
        have HB3 := hid13 (keepb q3 (keepb hb3 (keepb HQ2.out HB2.out)))
        have HV3 := hid13 ((own_rwx ho3).below q3)
        have HX2b := hid13 ((HX2.out.below hb3).below q3)
        have HX1c := hid13 (((HX1b.out.below HQ2.out).below hb3).below q3)
        have HX3 := hid13 (atf_new w3 E3 L3 C3)
        have HV2b := hid13 (((HV2.out.below HQ2.out).below hb3).below q3)
        have HV1c := hid13 (((HV1b.out.below HQ2.out).below hb3).below q3)
        have HNE : Hid (w.heap.size ≤ w2.heap.size ∧ w2.heap.size < w3.heap.size) := hid13 (by
          have h2 := lt_b15 (HX2.out.below hb3)
          have h4 := HB2.out.size
          exact ⟨h4, h2⟩)
        obtain ⟨a3, c3, hv3⟩ := own_form ho3
        subst hv3
        clear K3' ho3 hb3 HX2 HV2 HQ2 HB2 HX1b HV1b q3
        have hF := fun (a b c a' b' c' : Int) (W : World) => eqF_run a b c a' b' c' W
        rcases HCS.out with ⟨e1, g1, g2, g3, g4, g5⟩ | ⟨e1, g1, g2, e2, g3, g4, g5, g6, g7, g8⟩ | ⟨e1, g1, g2, e2, g3, g4, g5, g6, g7, g8⟩
        · subst g3 g4 g5
          subst g1
          subst g2
          generalize hW3 : w3.alloc (.cells #[.int .i64 E3, .int .i64 L3, .int .i64 C3] 31) = W3 at *
          obtain ⟨x0, x1, x2⟩ := HX1c.out.c
          obtain ⟨y0, y1, y2⟩ := HX2b.out.c
          obtain ⟨z0, z1, z2⟩ := HX3.out.c
          have f1 := fun W => hF E3 L3 C3 0 0 0 W
          have f2 := fun W => hF E3 L3 C3 E3 L3 C3 W
          rw [show (E3 == 0) = false by rw [beq_eq_false_iff_ne]; exact e1, Bool.false_and, Bool.false_and] at f1
          simp only [beq_self_eq_true, Bool.and_self] at f2
          clear hF e1 HCS
          go_wp2
          go_ret
          exact ⟨rfl, HB3.out⟩
        · subst e1 g1 g2 g3 g4 g6
          generalize hW3 : w3.alloc (.cells #[.int .i64 E3, .int .i64 L3, .int .i64 C3] 31) = W3 at *
          obtain ⟨x0, x1, x2⟩ := HX1c.out.c
          obtain ⟨y0, y1, y2⟩ := HX2b.out.c
          obtain ⟨z0, z1, z2⟩ := HX3.out.c
          have f1 := fun W => hF 0 0 0 0 0 0 W
          have f2 := fun W => hF E3 L2 C3 0 0 0 W
          have f3 := fun W => hF E3 L3 C3 E3 L3 C3 W
          rw [show (E3 == 0) = false by rw [beq_eq_false_iff_ne]; exact e2, Bool.false_and, Bool.false_and] at f2
          simp only [beq_self_eq_true, Bool.and_self] at f1 f3
          have m3 : IntKind.i64.wrap (L2 + (nl : Int)) = L3 := by rw [IntKind.wrap_i64, g5]; have := HCNT.out; have := HSZ.out; omega
          have HY2 := hid13 (HX2b.out.set1 L3)
          have HY3 : Hid (AtF (W3.setCell ⟨w2.heap.size, 1, none⟩ (.int .i64 L3)) w3.heap.size E3 L3 C3) := hid13 (HX3.out.set_other (by have := HNE.out; omega))
          obtain ⟨u0, u1, u2⟩ := HY2.out.c
          obtain ⟨v0, v1, v2⟩ := HY3.out.c
          have fr1 := fr_b15 (j := 1) HX2b.out
          have HB4 := hid13 (HB3.out.setCell (p := ⟨w2.heap.size, 1, none⟩) HNE.out.1 (.int .i64 L3))
          clear hF e2 HCS g5 g7 g8
          go_wp2
          go_ret
          exact ⟨rfl, HB4.out⟩
        · subst e1 g1 g2 e2 g3 g4 g5 g6 g7 g8
          obtain ⟨x0, x1, x2⟩ := HX1c.out.c
          obtain ⟨y0, y1, y2⟩ := HX2b.out.c
          have f1 := fun W => hF 0 0 0 0 0 0 W
          simp only [beq_self_eq_true, Bool.and_self] at f1
          have k1 := conv13 HV1c.out HO.out.1
          have k2 := conv13 HV2b.out HO.out.2.1
          have k3 := conv13 HV3.out HO.out.2.2
          rw [bsA_app] at k3
          have hz9 : ¬ 9223372036854775807 < (bsA A1).size + (bsA A2).size := by rw [bsA_size, bsA_size]; have := HAL.out; have := HSZ.out; omega
          generalize bsA A1 = B1 at *
          generalize bsA A2 = B2 at *
          rw [List.length_append] at k3
          clear hF HCS
          go_wp2
          go_ret
          exact ⟨rfl, HB3.out⟩
end Go.Proofs.YtologchdnjnadaaDoor
/-
  AsmBack: code's text is read as the code.
-/
namespace Go.Proofs.YtologchdnjnadaaDoor
open Go.RowKit
set_option linter.unusedSimpArgs false
set_option linter.unusedVariables false

theorem prL_len (l : List Nat) (hx : ∀ b ∈ l, b < 256) : ∀ (f k : Nat), (prL l f k).length ≤ 130 * (l.length / 4 - k)
  | 0, k => Nat.zero_le _
  | f + 1, k => by
    show (if k < l.length / 4 then lnT l k ++ prL l f (k + lnZ l k) else []).length ≤ _
    split
    · rename_i h
      have h1 := lnT_len l k hx
      have h2 := lnZ_le l k hx h
      have h3 := prL_len l hx f (k + lnZ l k)
      rw [List.length_append]
      omega
    · exact Nat.zero_le _
theorem prT_len (l : List Nat) (hx : ∀ b ∈ l, b < 256) : (prT l).length ≤ 130 * (l.length / 4) := by
  unfold prT
  split
  · exact prL_len l hx _ 0
  · exact Nat.zero_le _
theorem rwx_take15 {W : World} {ao : Option Addr} {cp : Nat} {l : List Nat} (m : Nat) (hm : m ≤ l.length) (h : RwX cB W (.slice ao l.length cp) l) : RwX cB W (.slice ao m cp) (l.take m) := by
  obtain ⟨ao', c, e, hc, hq⟩ := h
  injection e with e1 e2 e3
  subst e1 e3
  have hlen : (l.take m).length = m := by rw [List.length_take]; omega
  refine ⟨ao, cp, by rw [hlen], by rw [hlen]; omega, ?_⟩
  rcases hq with rfl | ⟨g, off, rfl, hq⟩
  · left; simp
  · exact .inr ⟨g, off, rfl, fun j x hj => by
      rw [List.getElem?_take] at hj
      split at hj
      · exact hq j x hj
      · cases hj⟩
theorem fr0_mk (L : List UInt8) : fr ⟨L.toArray⟩ 0 = L := by unfold fr; simp
set_option maxRecDepth 20000 in
set_option maxHeartbeats 16000000 in
theorem asmBack_any (v : Value) (l : List Nat) (w : World) (hA : RowA w 1 v l.length (l.map cB)) (hv : RwX cB w v l) (hl : l.length ≤ 140737488351232) (hx : ∀ b ∈ l, b < 256) (hN : Nm w) (hP : Pow15 w) :
    Calls Tryd.prog 6 #[v] w fun e w' => e = .returned (.bool true) ∧ Below w.heap.size w w' := by
  have K0 := known15 w hN hP
  obtain ⟨i0, hi, hz0, hz1, hz2⟩ := info13 Tryd.infoB13
  obtain ⟨ao, cp, rfl, hcp, -⟩ := id hv
  by_cases h1 : 16384 < l.length
  · have h1i : (16384 : Int) < (l.length : Int) := by omega
    clear hA hv hl hx hN hP hcp
    go_enter Tryd.func6, Tryd.ntmps6
    go_wp2_with fail
    refine K0.mono ?_
    rintro e W0 ⟨rfl, hb0⟩
    have HB0 := hid13 hb0
    clear K0 hb0
    go_wp2
    go_ret
    exact ⟨rfl, HB0.out⟩
  have h1i : ¬ (16384 : Int) < (l.length : Int) := by omega
  obtain ⟨m, hm⟩ : ∃ m, m = l.length / 4 * 4 := ⟨_, rfl⟩
  obtain ⟨q4, hq4⟩ : ∃ q, q = l.length / 4 := ⟨_, rfl⟩
  have m1 : ((l.length : Nat) : Int).tdiv 4 = (q4 : Int) := by rw [Int.tdiv_eq_ediv_of_nonneg (by omega)]; omega
  have m1' : ((l.length : Nat) : Int) / 4 = (q4 : Int) := by omega
  have m2 : wrap64 (q4 : Int) = (q4 : Int) := by unfold wrap64; omega
  have m3 : IntKind.i64.wrap ((q4 : Int) * 4) = (m : Int) := by rw [IntKind.wrap_i64]; omega
  have m3' : wrap64 ((q4 : Int) * 4) = (m : Int) := by unfold wrap64; omega
  have hSl := fun W => run_slice_to (P := Tryd.prog) (w := W) (t := 22) Tryd.underlying22 hi ao l.length cp m (by omega)
  have hR := rwx_take15 m (by omega) hv
  obtain ⟨l', hl'⟩ : ∃ l', l' = l.take m := ⟨_, rfl⟩
  rw [← hl'] at hR
  have hlen : l'.length = m := by rw [hl', List.length_take]; omega
  have hx' : ∀ b ∈ l', b < 256 := fun b hb => hx b (List.mem_of_mem_take (by rw [← hl']; exact hb))
  have h4 : l'.length % 4 = 0 := by omega
  obtain ⟨p1, p2, p3⟩ := pr_back l' hx' h4
  have hE : prE l' = 0 := by unfold prE; rw [if_pos h4]
  have hpl := prT_len l' hx'
  obtain ⟨T, hT⟩ : ∃ T, T = prT l' := ⟨_, rfl⟩
  rw [← hT] at p1 p2 p3 hpl
  obtain ⟨S, hS⟩ : ∃ S : ByteArray, (⟨T.toArray⟩ : ByteArray) = S := ⟨_, rfl⟩
  have hSf : fr S 0 = T := by rw [← hS]; exact fr0_mk T
  have hSz : S.size = T.length := by rw [← hSf, fr_len]; omega
  have K1 := fun W (hb : Below w.heap.size w W) => print15_any (.slice ao m cp) l' W (hR.below hb) (hN.below hb) (hP.keep hb) (by omega) hx'
  rw [hE, ← hT, hS] at K1
  have K2 := fun W (hb : Below w.heap.size w W) => parse15_any S W (by omega) (hN.below hb)
  rw [hSf, p1] at K2
  have HR := hid13 hR
  have HX := hid13 hx'
  have HN := hid13 hN
  have HL : Hid (l'.length = m ∧ S.size ≤ 1000000) := ⟨hlen, by omega⟩
  have HK1 := hid13 K1
  have HK2 := hid13 K2
  have HP3 := hid13 p3
  have HP2 := hid13 p2
  have HSf := hid13 hSf
  have hF := fun W => eqF_run 0 0 0 0 0 0 W
  simp only [beq_self_eq_true, Bool.and_self] at hF
  have hEm : S.toList.isEmpty = decide (S.size = 0) := by
    rw [ByteArray.toList_eq]
    have : S.data.toList.length = S.size := rfl
    cases hq : S.data.toList with
    | nil => rw [hq] at this; rw [← this]; rfl
    | cons c l => rw [hq] at this; rw [← this]; rfl
  clear hA hv hl hx hN hP hcp h1 hm hq4 hR hl' hlen hx' h4 p1 p2 p3 hE hpl hT hS hSf hSz K1 K2
  have walk : ∀ (Z : Prop), True → Z → Z := fun Z _ h => h
  by_cases h0 : S.size = 0
  · have hE : S.toList.isEmpty = true := by rw [hEm, decide_eq_true h0]
    have hm0 : m = 0 := by
      rw [← HL.out.1, HP2.out (by rw [← HSf.out]; exact fr_nil h0.symm)]; rfl
    have HM0 := hid13 hm0
    clear hEm walk hm0 h0
    go_enter Tryd.func6, Tryd.ntmps6
    go_wp2_with fail
    refine K0.mono ?_
    rintro e W0 ⟨rfl, hb0⟩
    have HB0 := hid13 hb0
    have K1 := HK1.out _ hb0
    clear K0 hb0
    go_wp2_with fail
    refine K1.mono ?_
    rintro e W1 ⟨rfl, hb1⟩
    have HB1 := hid13 (keepb hb1 HB0.out)
    have K2 := HK2.out _ HB1.out
    clear K1 hb1
    go_wp2_with fail
    refine K2.mono ?_
    rintro e W2 ⟨v2, rfl, ho2, hb2⟩
    have q2 := bl1 W2 (.cells #[.int .i64 0, .int .i64 0, .int .i64 0] 31)
    have HB2 := hid13 (keepb q2 (keepb hb2 HB1.out))
    have HV2 := hid13 ((own_rwx ho2).below q2)
    have k1 := conv13 HV2.out HX.out
    have k2 := conv13 (HR.out.below HB2.out) HX.out
    obtain ⟨a2, c2, hv2⟩ := own_form ho2
    subst hv2
    clear K2 ho2 hb2 q2
    generalize bsA l' = B at *
    go_wp2
    go_ret
    exact ⟨by rw [HM0.out]; rfl, HB2.out⟩
  · have hE : S.toList.isEmpty = false := by rw [hEm, decide_eq_false h0]
    obtain ⟨z, hz⟩ : ∃ z, S.size = z + 1 := ⟨S.size - 1, by omega⟩
    obtain ⟨U, hU1, hU2⟩ := HP3.out (by intro e; rw [e] at HSf; have := fr_len S 0; rw [HSf.out] at this; simp at this; omega)
    have hUl : U.length = z := by
      have := fr_len S 0
      rw [HSf.out, hU1, List.length_append, List.length_singleton] at this
      omega
    have hUf : fr (S.extract 0 z) 0 = U := by
      have e1 : S.data.toList = U ++ [10] := by rw [← hU1]; exact HSf.out
      unfold fr
      rw [List.drop_zero, ByteArray.data_extract, Array.toList_extract, List.extract_eq_take_drop, List.drop_zero, Nat.sub_zero, e1, ← hUl]
      simp
    have hUs : (S.extract 0 z).size ≤ 1000000 := by rw [ByteArray.size_extract]; have := HL.out; omega
    have K3 := fun W (hb : Below w.heap.size w W) => parse15_any (S.extract 0 z) W hUs (HN.out.below hb)
    rw [hUf, hU2] at K3
    have HK3 := hid13 K3
    have mz : IntKind.i64.wrap ((S.size : Int) - 1) = (z : Int) := by rw [IntKind.wrap_i64]; have := HL.out; omega
    have hzi : (z : Int) < (S.size : Int) := by omega
    have hzle : (z : Int) ≤ (S.size : Int) := by omega
    have hzlt : z < S.size := by omega
    have hzb := byteAt_in S z hzlt
    have hb10 : byteAt S z = 10 := by
      have e1 : S.data.toList = U ++ [10] := by rw [← hU1]; exact HSf.out
      rw [byteAt_lst9, e1, ← hUl]
      simp
    rw [hb10] at hzb
    clear hEm walk h0 hU1 hU2 hUl hUf hUs K3 hz hb10
    go_enter Tryd.func6, Tryd.ntmps6
    go_wp2_with fail
    refine K0.mono ?_
    rintro e W0 ⟨rfl, hb0⟩
    have HB0 := hid13 hb0
    have K1 := HK1.out _ hb0
    clear K0 hb0
    go_wp2_with fail
    refine K1.mono ?_
    rintro e W1 ⟨rfl, hb1⟩
    have HB1 := hid13 (keepb hb1 HB0.out)
    have K2 := HK2.out _ HB1.out
    clear K1 hb1
    go_wp2_with fail
    refine K2.mono ?_
    rintro e W2 ⟨v2, rfl, ho2, hb2⟩
    have q2 := bl1 W2 (.cells #[.int .i64 0, .int .i64 0, .int .i64 0] 31)
    have HB2 := hid13 (keepb q2 (keepb hb2 HB1.out))
    have HV2 := hid13 ((own_rwx ho2).below q2)
    have k1 := conv13 HV2.out HX.out
    have k2 := conv13 (HR.out.below HB2.out) HX.out
    obtain ⟨a2, c2, hv2⟩ := own_form ho2
    subst hv2
    clear K2 ho2 hb2 q2
    have K3 := HK3.out _ HB2.out
    generalize bsA l' = B at *
    go_wp2_with fail
    refine K3.mono ?_
    rintro e W3 ⟨v3, rfl, ho3, hb3⟩
    have q3 := bl1 W3 (.cells #[.int .i64 0, .int .i64 0, .int .i64 0] 31)
    have HB3 := hid13 (keepb q3 (keepb hb3 HB2.out))
    have k3 := conv13 ((own_rwx ho3).below q3) HX.out
    have k4 := conv13 (HR.out.below HB3.out) HX.out
    obtain ⟨a3, c3, hv3⟩ := own_form ho3
    subst hv3
    clear K3 ho3 hb3 q3 k1 k2
    generalize bsA l' = B at *
    go_wp2
    go_ret
    exact ⟨rfl, HB3.out⟩
end Go.Proofs.YtologchdnjnadaaDoor
