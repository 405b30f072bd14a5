/-
  Part 31 of the proof: 3 texts, one behind the other.
-/
import Derived.Test.YtdpmhpmnkollaaaPart18
import Derived.Test.YtdpmhpmnkollaaaPart30
import Derived.Test.YtdpmhpmnkollaaaPart24
namespace Go.Proofs.Ytdpmhpmnkollaaa
open Go.RowKit
set_option linter.unusedSimpArgs false
set_option linter.unusedVariables false
attribute [local go_sem] Oper.semAt_some

set_option maxRecDepth 100000 in
set_option maxHeartbeats 8000000 in
theorem same_any16 (v1 v2 : Value) (L : List Nde) (w : World) (h1 : RwD w v1 L) (h2 : RwD w v2 L) (hl : L.length ≤ 1000000) (hr : ∀ d ∈ L, d.r.length ≤ 1000000) :
    Calls Try.prog 11 #[v1, v2] w fun e w' => e = .returned (.bool true) ∧ Below w.heap.size w w' := by
  obtain ⟨ao, c, rfl, -, hrow⟩ := h1
  obtain ⟨ao2, c2, rfl, -, hrow2⟩ := h2
  have HC := hid13 hrow
  have HC2 := hid13 hrow2
  have HL := hid13 hr
  have HB := hid13 (Below.refl w.heap.size w)
  clear hrow hrow2 hr
  go_enter Try.func11, Try.ntmps11
  go_wp2_with fail
  go_loopg [5] L.length (fun g iv wr => ∃ k : Nat, k + g = L.length ∧ iv = .int .i64 (k : Int) ∧ Hid (Below w.heap.size w wr))
  case atStart => exact ⟨0, by omega, rfl, HB⟩
  case round =>
    clear HB
    obtain ⟨k, hk, rfl, HB⟩ := hrel
    by_cases hlt : (k : Int) < (L.length : Int)
    · have hks : k < L.length := by omega
      obtain ⟨b, off, rfl, hcell⟩ := HC.out.resolve_left (by rintro rfl; simp at hks)
      obtain ⟨b2, off2, rfl, hcell2⟩ := HC2.out.resolve_left (by rintro rfl; simp at hks)
      obtain ⟨⟨db, dr⟩, hd⟩ : ∃ d, L[k]? = some d := ⟨_, List.getElem?_eq_getElem hks⟩
      obtain ⟨vr, x0, x1, hR⟩ := hcell k _ hd
      obtain ⟨vr2, y0, y1, hR2⟩ := hcell2 k _ hd
      have hdr := HL.out _ (List.mem_of_getElem? hd)
      dsimp only at x0 y0 hR hR2 hdr
      obtain ⟨va, vc, rfl, -, hrr⟩ := hR
      obtain ⟨va2, vc2, rfl, -, hrr2⟩ := hR2
      have HR := hid13 hrr
      have HR2 := hid13 hrr2
      have HX1 := hid13 x1
      have HY1 := hid13 y1
      have x0 := keepc HB.out x0
      have y0 := keepc HB.out y0
      have x1 := keepc HB.out x1
      have y1 := keepc HB.out y1
      have HB2 := hid13 HB.out.drew
      obtain ⟨G, hG⟩ : ∃ G, G = gk := ⟨_, rfl⟩
      have HJ : Hid (k + G = L.length ∧ k < L.length ∧ G = gk) := ⟨by omega, by omega, hG⟩
      have mk : IntKind.i64.wrap ((k : Int) + 1) = (k : Int) + 1 := by rw [IntKind.wrap_i64]; omega
      clear hcell hcell2 hd hrr hrr2 hG hk
      go_wp2_with fail
      go_region
      go_wp2_with fail
      go_loopg [6] dr.length (fun g jv wr2 => ∃ j : Nat, j + g = dr.length ∧ jv = .int .i64 (j : Int) ∧ Hid (Below w.heap.size w wr2))
      case atStart => exact ⟨0, by omega, rfl, HB2⟩
      case round =>
        clear HB2 x0 y0 x1 y1
        obtain ⟨j, hj, rfl, HB3⟩ := hrel
        have x1 := keepc HB3.out HX1.out
        have y1 := keepc HB3.out HY1.out
        by_cases hlt3 : (j : Int) < (dr.length : Int)
        · have hjs : j < dr.length := by omega
          obtain ⟨rb, rof, rfl, hrc⟩ := HR.out.resolve_left (by rintro rfl; simp at hjs)
          obtain ⟨rb2, rof2, rfl, hrc2⟩ := HR2.out.resolve_left (by rintro rfl; simp at hjs)
          obtain ⟨r, hr⟩ : ∃ r, dr[j]? = some r := ⟨_, List.getElem?_eq_getElem hjs⟩
          obtain ⟨r0, r1, r2, r3⟩ := hrc j r hr
          obtain ⟨s0, s1, s2, s3⟩ := hrc2 j r hr
          have r0 := keepc HB3.out r0
          have r1 := keepc HB3.out r1
          have r2 := keepc HB3.out r2
          have r3 := keepc HB3.out r3
          have s0 := keepc HB3.out s0
          have s1 := keepc HB3.out s1
          have s2 := keepc HB3.out s2
          have s3 := keepc HB3.out s3
          have HB4 := hid13 HB3.out.drew
          have mj : IntKind.i64.wrap ((j : Int) + 1) = (j : Int) + 1 := by rw [IntKind.wrap_i64]; omega
          have HK : Hid (j + gk = dr.length ∧ j < dr.length) := ⟨hj, hjs⟩
          clear hrc hrc2 hr hj
          go_wp2_with fail
          go_region
          go_wp2
          go_roundg (gk - 1)
          case measure => have := HK.out; omega
          case rel => exact ⟨j + 1, by have := HK.out; omega, rfl, HB4⟩
        · clear hj
          go_wp2
          go_roundg (G - 1)
          case measure => have := HJ.out; omega
          case rel => exact ⟨k + 1, by have := HJ.out; omega, rfl, HB3⟩
    · go_wp2
      go_ret
      exact ⟨rfl, HB.out⟩
end Go.Proofs.Ytdpmhpmnkollaaa
namespace Go.Proofs.Ytdpmhpmnkollaaa
open Go.RowKit Go.Shelf
set_option linter.unusedSimpArgs false
set_option linter.unusedVariables false
attribute [local go_sem] Oper.semAt_some

theorem wdB_lt16 (o k : Nat) (m : List (BitVec 32)) : ∀ b ∈ wdB o k m, b < 256 := by
  intro b hb
  unfold wdB at hb
  obtain ⟨x, -, hx⟩ := List.mem_flatMap.mp hb
  exact by4_lt _ x.isLt b hx
theorem rnB_lt (P : List Int) : ∀ (l : List Rn) (p : Nat), ∀ b ∈ rnB P p l, b < 256
  | [], p, b, h => by cases h
  | r :: l, p, b, h => by
    rcases List.mem_append.mp h with h | h
    · exact wdB_lt16 _ _ _ b h
    · exact rnB_lt P l _ b h
theorem ndB_lt (P : List Int) (a : Nat) (d : Nde) : ∀ b ∈ ndB P a d, b < 256 := by
  intro b h
  unfold ndB at h
  split at h
  · exact rnB_lt _ _ _ b h
  · rcases List.mem_append.mp h with h | h
    · exact wdB_lt16 _ _ _ b h
    · rcases List.mem_append.mp h with h | h
      · exact wdB_lt16 _ _ _ b h
      · exact rnB_lt _ _ _ b h
theorem lyB_lt (L : List Nde) (P : List Int) : ∀ (o : List Int) (a : Nat), ∀ b ∈ lyB L P a o, b < 256
  | [], a, b, h => by cases h
  | k :: o, a, b, h => by
    rcases List.mem_append.mp h with h | h
    · exact ndB_lt _ _ _ b h
    · exact lyB_lt L P o _ b h
theorem codB_lt (F : Int) (L : List Nde) (most : Int) : ∀ b ∈ codB F L most, b < 256 := by
  unfold codB
  split
  · exact lyB_lt _ _ _ _
  · intro b h; cases h
theorem cod_len {F : Int} {L : List Nde} {most : Int} (h : codE F L most = 0) : (codB F L most).length ≤ 4194304 ∧ ((codB F L most).length : Int) ≤ most ∧
    (∀ m, ((codB F L most).length : Int) ≤ m → codE F L m = 0 ∧ codB F L m = codB F L most) ∧ (∀ m, m < ((codB F L most).length : Int) → codE F L m = 18 ∧ codB F L m = []) := by
  have h' := h
  unfold codE at h
  by_cases h0 : (layR F L).2 = 0
  · rw [if_pos h0] at h
    by_cases hc : min most 4194304 < 4 * ((layR F L).1.2.2 : Int)
    · rw [if_pos hc] at h; cases h
    · obtain ⟨ok, hck, hpl, hoo⟩ := lay_zero h0
      obtain ⟨hlo, hws⟩ := lay_ok ok hpl (by omega)
      rw [← hoo] at hlo hws
      have hB : codB F L most = lyB L (layR F L).1.2.1 0 (layR F L).1.1 := by unfold codB; rw [if_pos h']
      have hlen := lyB_len hlo
      rw [← hB, hws] at hlen
      refine ⟨by omega, by omega, fun m hm => ?_, fun m hm => ?_⟩
      · have e : codE F L m = 0 := by unfold codE; rw [if_pos h0, if_neg (by omega)]
        exact ⟨e, by rw [hB]; unfold codB; rw [if_pos e]⟩
      · have e : codE F L m = 18 := by unfold codE; rw [if_pos h0, if_pos (by omega)]
        exact ⟨e, by unfold codB; rw [if_neg (by omega)]⟩
  · rw [if_neg h0] at h; exact absurd h h0
end Go.Proofs.Ytdpmhpmnkollaaa
namespace Go.Proofs.Ytdpmhpmnkollaaa
open Go.RowKit Go.Shelf
set_option linter.unusedSimpArgs false
set_option linter.unusedVariables false
attribute [local go_sem] Oper.semAt_some

set_option maxRecDepth 100000 in
set_option maxHeartbeats 16000000 in
theorem emitVerified_any (F : Int) (v : Value) (L : List Nde) (w : World) (hF0 : -9223372036854775808 ≤ F) (hF1 : F ≤ 9223372036854775807) (hv : RwD w v L) (hl : L.length ≤ 140737488355328) (hr : ∀ d ∈ L, d.r.length ≤ 140737488355328) :
    Calls Try.prog 3 #[.int .i64 F, v] w fun e w' => e = .returned (.bool true) ∧ Below w.heap.size w w' := by
  have HV := hid13 hv
  have HL : Hid (L.length ≤ 140737488355328 ∧ ∀ d ∈ L, d.r.length ≤ 140737488355328) := ⟨hl, hr⟩
  obtain ⟨ao, c, hvf, -⟩ := id hv
  subst hvf
  clear hv hl hr hF0 hF1
  go_enter Try.func3, Try.ntmps3
  go_wp2_with fail
  refine (known16 _).mono ?_
  rintro e w1 ⟨rfl, hb1⟩
  have HB1 := hid13 hb1
  have KS := small_any _ L w1 (HV.out.below hb1) HL.out.1 HL.out.2
  clear hb1
  go_wp2_with fail
  refine KS.mono ?_
  rintro e w2 ⟨t, rfl, ht, hw⟩
  subst hw
  clear KS
  cases t with
  | false =>
    go_wp2
    go_ret
    exact ⟨rfl, HB1.out⟩
  | true =>
  have hf := few_ok (ht rfl)
  have HS : Hid (L.length ≤ 1000000 ∧ ∀ d ∈ L, d.r.length ≤ 1000000) := ⟨by omega, fun d hd => by have := hf.2 d hd; omega⟩
  have KC := rcheck_any F _ L w2 (HV.out.below HB1.out) HS.out.1 HS.out.2
  have KE := hid13 (fun u W (h : RwD W u L) => code_any F u L 4194304 W h (by have := HS.out.1; omega) (fun d hd => by have := HS.out.2 d hd; omega))
  have HX := hid13 (codB_lt F L 4194304)
  have HA := hid13 (fun h => cod_err (F := F) (L := L) 4194304 h)
  have HBg := hid13 (fun h h2 => cod_big (F := F) (L := L) (most := 4194304) h h2)
  have HG := hid13 (fun h => ver_all (F := F) (L := L) (most := 4194304) h HS.out.1 HS.out.2)
  have HCl := hid13 (fun h => (cod_len (F := F) (L := L) (most := 4194304) h).1)
  clear hf ht HL
  obtain ⟨B, hB⟩ : ∃ B, B = codB F L 4194304 := ⟨_, rfl⟩
  obtain ⟨E, hE⟩ : ∃ E, E = codE F L 4194304 := ⟨_, rfl⟩
  rw [← hB, ← hE] at KE HA HBg HG HCl
  rw [← hB] at HX
  obtain ⟨D, hD⟩ : ∃ D, D = (chkM F L).1 := ⟨_, rfl⟩
  obtain ⟨C, hC⟩ : ∃ C, C = (chkM F L).2 := ⟨_, rfl⟩
  rw [← hD, ← hC] at KC
  rw [← hC] at HA HBg
  rw [← hD] at HG
  clear hB hE hD hC
  go_wp2_with fail
  refine KC.mono ?_
  rintro e w3 ⟨rfl, hb3⟩
  have HB3 := hid13 (keepb hb3 HB1.out)
  have K4 := KE.out _ w3 (HV.out.below HB3.out)
  clear KC hb3 HB1 KE
  go_wp2_with fail
  refine K4.mono ?_
  rintro e w4 ⟨vB, rfl, ho4, hb4⟩
  have HB4 := hid13 (keepb hb4 HB3.out)
  have HO4 := hid13 ho4
  obtain ⟨bo, bc, hvB⟩ := own_form ho4
  subst hvB
  clear K4 hb4 ho4 HB3
  by_cases hC0 : C = 0
  · by_cases hE0 : E = 0
    · subst hE0 hC0
      obtain ⟨M, g1, g2, g3, g4, g5, g6, g7, g8, g9⟩ := HG.out rfl
      have hBl := HCl.out rfl
      have HRb := hid13 (own_rwx HO4.out)
      have K5 := rcode18 w4 F bo bc B HRb.out hBl HX.out
      rw [g1] at K5
      have HTr := hid13 (fun (X : World) (h : RwX cB X (.slice bo B.length bc) B) => rtree18 X F bo bc B h hBl HX.out)
      have HTq := hid13 (fun (X : World) (e : Ending) (X' : World) (h : TrQ X F B e X') => show ∃ u, e = .returned (.tuple #[u, .int .i64 0]) ∧ Below X.heap.size X X' ∧ RwD X' u M from by
        obtain ⟨u, U, rfl, -, h2, h3⟩ := h
        rw [g1] at h2 ⊢
        have h4 := h2 rfl
        rw [g2] at h4
        exact ⟨u, rfl, h3, h4.rwd⟩)
      have KO := hid13 (fun u X (h : RwD X u L) => rorder12_any u L X h g4 HS.out.1 HS.out.2)
      have KN := hid13 (fun u u' X (h : RwD X u L) (h' : RwX cI X u' (ordL L)) => rnumbered12 u u' L (ordL L) X h h' g4.1 HS.out.1 (by have := HS.out.1; omega) HS.out.2 g8 g9)
      rw [g3] at KN
      have KSm := hid13 (fun u1 u2 X (h1 : RwD X u1 M) (h2 : RwD X u2 M) => same_any16 u1 u2 M X h1 h2 g5 g6)
      clear g1 g2 g3 g4 g5 g6 g7 g8 g9 hBl HG HCl HA HBg HX HO4 HS
      generalize ordL L = o at *
      go_wp2_with fail
      refine K5.mono ?_
      rintro e w5 ⟨rfl, hb5⟩
      have HB5 := hid13 (keepb hb5 HB4.out)
      have K6 := HTr.out w5 (HRb.out.below hb5)
      clear K5 hb5 HB4 HTr HRb
      go_wp2_with fail
      refine K6.mono ?_
      rintro e w6 hq
      obtain ⟨u6, rfl, hb6, hd6⟩ := HTq.out _ _ _ hq
      have HB6 := hid13 (keepb hb6 HB5.out)
      have HD6 := hid13 hd6
      have K7 := KO.out _ w6 (HV.out.below HB6.out)
      clear K6 hb6 hd6 hq HB5 HTq KO
      go_wp2_with fail
      refine K7.mono ?_
      rintro e w7 ⟨v7, rfl, ho7, hb7⟩
      have HB7 := hid13 (keepb hb7 HB6.out)
      have HD7 := hid13 (HD6.out.below hb7)
      have K8 := KN.out _ v7 w7 (HV.out.below HB7.out) (own_rwx ho7)
      clear K7 hb7 ho7 HB6 HD6 KN
      go_wp2_with fail
      refine K8.mono ?_
      rintro e w8 ⟨v8, V8, rfl, hn8, hb8⟩
      have HB8 := hid13 (keepb hb8 HB7.out)
      have K9 := KSm.out _ _ w8 (HD7.out.below hb8) hn8.rwd
      clear K8 hb8 hn8 HB7 HD7 KSm
      go_wp2_with fail
      refine K9.mono ?_
      rintro e w9 ⟨rfl, hb9⟩
      have HB9 := hid13 (keepb hb9 HB8.out)
      clear K9 hb9 HB8
      go_wp2
      go_ret
      exact ⟨rfl, HB9.out⟩
    · have hEb : (E != 0) = true := by simpa using hE0
      obtain ⟨e1, e2⟩ := HBg.out hC0 hE0
      subst hC0 e1 e2
      clear HA HBg HG HCl HX HO4 HS hE0
      go_wp2
      go_ret
      exact ⟨rfl, HB4.out⟩
  · have hCb : (C != 0) = true := by simpa using hC0
    obtain ⟨e1, e2⟩ := HA.out hC0
    subst e1 e2
    clear HA HBg HG HCl HX HO4 HS hC0
    go_wp2
    go_ret
    exact ⟨rfl, HB4.out⟩
end Go.Proofs.Ytdpmhpmnkollaaa
