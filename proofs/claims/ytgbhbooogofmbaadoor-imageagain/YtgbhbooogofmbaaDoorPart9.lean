/-
  Part 9 of the proof: 3 texts, one behind the other.
-/
import Derived.Test.YtgbhbooogofmbaaDoorPart6
import Derived.Test.YtgbhbooogofmbaaDoorPart8
import Derived.Test.YtgbhbooogofmbaaDoorPart2
import Derived.Deep.Slices
import Derived.Carry
import Derived.SizedLaws
import Derived.ProofKit
import Derived.Lib.SmallJoins
namespace Go.Proofs.YtgbhbooogofmbaaDoor
open Go.RowKit
set_option linter.unusedSimpArgs false
set_option linter.unusedVariables false

theorem eqH_run (a b c d a' b' c' d' : Int) (w : World) :
    (Op.equalIn 10000 23 (.agg #[.int .i64 a, .int .i64 b, .int .i64 c, .int .i64 d]) (.agg #[.int .i64 a', .int .i64 b', .int .i64 c', .int .i64 d'])).run Tryd.prog w = .ok ((a == a') && ((b == b') && ((c == c') && (d == d')))) w := by
  by_cases h1 : a = a'
  · by_cases h2 : b = b'
    · by_cases h3 : c = c'
      · by_cases h4 : d = d'
        · subst h1 h2 h3 h4; go_simp
          try simp [*]
        · subst h1 h2 h3; go_simp
          try simp [*]
      · subst h1 h2; go_simp
        try simp [*]
    · subst h1; go_simp
      try simp [*]
  · go_simp
    try simp [*]
theorem kn_pk : pkE 32 0 1 1 [4, 0, 0, 9] = 0 := by decide +kernel
theorem kn_B : pkB 32 0 1 1 [4, 0, 0, 9] = imB 32 0 1 1 [4, 0, 0, 9] := by unfold pkB; rw [if_pos kn_pk]; rfl
theorem kn_op : opE (imB 32 0 1 1 [4, 0, 0, 9]) 0 = 0 := by
  unfold opE
  rw [if_neg (by rw [imB_len]; decide)]
  have := im_of (W := 32) (D := 0) (S := 1) (n := 1) (l := [4, 0, 0, 9]) kn_pk []
  rw [List.append_nil] at this
  exact this
theorem kn_opV : opV (imB 32 0 1 1 [4, 0, 0, 9]) 0 = .agg #[.int .i64 32, .int .i64 0, .int .i64 1, .int .i64 1] ∧ opC (imB 32 0 1 1 [4, 0, 0, 9]) 0 = [4, 0, 0, 9] := by
  obtain ⟨a1, a2, a3, a4, a5, a6, a7, a8⟩ := im_read (W := 32) (D := 0) (S := 1) (n := 1) (l := [4, 0, 0, 9]) (by decide) (by decide) rfl []
  rw [List.append_nil] at a2 a3 a4 a5 a6
  unfold opV opC
  rw [if_pos kn_op, if_pos kn_op, show (0 : Int).toNat = 0 from rfl, List.drop_zero, a2, a3, a4, a5, a6]
  exact ⟨rfl, rfl⟩
set_option maxRecDepth 100000 in
set_option maxHeartbeats 8000000 in
theorem known17 (w : World) (hT : Hf w) :
    Calls Tryd.prog 9 #[] w fun e w' => e = .returned (.bool true) ∧ Below w.heap.size w w' := by
  obtain ⟨i0, hi, hz0, hz1, hz2⟩ := info13 Tryd.infoB13
  have q1 := bl1 w (.cells #[.int .u8 4, .int .u8 0, .int .u8 0, .int .u8 9] 5)
  have o1 := lit_own17 (w := w) w.heap.size #[.int .u8 4, .int .u8 0, .int .u8 0, .int .u8 9] [4, 0, 0, 9] (Nat.le_refl _) rfl (by decide) 4 rfl
  have K1 := pack_any 32 0 1 1 (.slice (some ⟨w.heap.size, 0, none⟩) 4 4) [4, 0, 0, 9] (w.alloc (.cells #[.int .u8 4, .int .u8 0, .int .u8 0, .int .u8 9] 5)) (own_rowA o1) (own_rwx o1) (by decide) (by decide) (hT.below q1)
  rw [kn_pk, kn_B] at K1
  have HQ := hid13 q1
  have HT := hid13 hT
  have hBl : (imB 32 0 1 1 [4, 0, 0, 9]).length = 20 := imB_len _ _ _ _ _
  have h12 : (imB 32 0 1 1 [4, 0, 0, 9]).take 12 = [84, 80, 75, 49, 32, 0, 0, 1, 0, 0, 0, 1] := by
    have := (im_read (W := 32) (D := 0) (S := 1) (n := 1) (l := [4, 0, 0, 9]) (by decide) (by decide) rfl []).2.2.2.2.2.2.1
    rw [List.append_nil] at this
    exact this
  have hlt : ∀ b ∈ imB 32 0 1 1 [4, 0, 0, 9], b < 256 := imB_lt (by decide) (by decide) (by decide) (by decide) (by decide)
  have K2 := fun v w' (hv : RwX cB w' v (imB 32 0 1 1 [4, 0, 0, 9])) (hT : Hf w') => open_any v _ 0 w' hv (by rw [hBl]; decide) hlt hT
  rw [kn_op, kn_opV.1, kn_opV.2] at K2
  generalize imB 32 0 1 1 [4, 0, 0, 9] = B at *
  have HB : Hid (B.take 12 = [84, 80, 75, 49, 32, 0, 0, 1, 0, 0, 0, 1] ∧ B.length = 20 ∧ ∀ b ∈ B, b < 256) := ⟨h12, hBl, hlt⟩
  clear q1 o1 hT hBl h12 hlt hz0 hz1 hz2
  go_enter Tryd.func9, Tryd.ntmps9
  go_wp2_with fail
  refine K1.mono ?_
  rintro e w1 ⟨v1, rfl, hO1, hb1⟩
  rw [HB.out.2.1] at hO1
  obtain ⟨ao, c, hv⟩ := own_form hO1
  subst hv
  have hR : RwX cB w1 (.slice ao 20 c) B := own_rwx (l := B) (by rw [HB.out.2.1]; exact hO1)
  have hc20 : (20 : Int) ≤ (c : Int) := by
    obtain ⟨ao', c', e, hc, -⟩ := id hR
    injection e with e1 e2 e3
    rw [HB.out.2.1] at hc
    omega
  have hs := run_slice_to (P := Tryd.prog) (w := w1) Tryd.underlying24 hi ao 20 c 12 (by omega)
  have hR12 : RwX cB w1 (.slice ao 12 c) [84, 80, 75, 49, 32, 0, 0, 1, 0, 0, 0, 1] := by
    have h : RwX cB w1 (.slice ao 20 c) (B.take 12 ++ B.drop 12) := by rw [List.take_append_drop]; exact hR
    have := rwx_take h
    rw [HB.out.1] at this
    exact this
  have hcv := conv13 hR12 (by decide)
  rw [show bsA [84, 80, 75, 49, 32, 0, 0, 1, 0, 0, 0, 1] = ⟨#[84, 80, 75, 49, 32, 0, 0, 1, 0, 0, 0, 1]⟩ from rfl] at hcv
  have HB1 := hid13 (keepb hb1 HQ.out)
  have K3 := K2 _ w1 hR (HT.out.below HB1.out)
  clear K1 K2 hO1 hb1 hR hR12 HB HQ HT hi
  go_wp2_with fail
  refine K3.mono ?_
  rintro e w2 ⟨v2, rfl, hO2, hb2⟩
  obtain ⟨ao2, c2, hv2⟩ := own_form hO2
  subst hv2
  have q3 := bl1 w2 (.cells #[.int .i64 32, .int .i64 0, .int .i64 1, .int .i64 1] 23)
  have hcv2 : (convert 24 9 (.slice ao2 4 c2)).run Tryd.prog (w2.alloc (.cells #[.int .i64 32, .int .i64 0, .int .i64 1, .int .i64 1] 23)) = .ok (.string (bsA [4, 0, 0, 9])) (w2.alloc (.cells #[.int .i64 32, .int .i64 0, .int .i64 1, .int .i64 1] 23)) := conv13 ((own_rwx (l := [4, 0, 0, 9]) hO2).below q3) (by decide)
  rw [show bsA [4, 0, 0, 9] = ⟨#[4, 0, 0, 9]⟩ from rfl] at hcv2
  have HB2 := hid13 (keepb q3 (keepb hb2 HB1.out))
  have hq := eqH_run 32 0 1 1 32 0 1 1
  clear K3 hO2 hb2 HB1 q3 hs hcv hc20
  go_wp2
  go_ret
  exact ⟨rfl, HB2.out⟩
end Go.Proofs.YtgbhbooogofmbaaDoor
namespace Go.Proofs.YtgbhbooogofmbaaDoor
open Go.RowKit
set_option linter.unusedSimpArgs false
set_option linter.unusedVariables false

theorem rwx_mid17 {W : World} {ao : Option Addr} {n c k z : Nat} {l : List Nat} (h : RwX cB W (.slice ao n c) l) (hk : k + z ≤ l.length) : RwX cB W (.slice (if c = k then ao else ao.map (·.add (k * 1))) z (c - k)) ((l.drop k).take z) := by
  have h1 := rwx_from h (k := k) (by omega)
  have h2 : RwX cB W (.slice (if c = k then ao else ao.map (·.add (k * 1))) (l.length - k) (c - k)) ((l.drop k).take z ++ (l.drop k).drop z) := by rw [List.take_append_drop]; exact h1
  have h3 := rwx_take h2
  rw [List.length_take, List.length_drop, Nat.min_eq_left (by omega)] at h3
  exact h3
set_option maxRecDepth 100000 in
set_option maxHeartbeats 16000000 in
theorem imageAgain_any (v : Value) (l : List Nat) (a : Int) (w : World) (hA : RowA w 1 v l.length (l.map cB)) (hv : RwX cB w v l) (hl : l.length * 1 ≤ 140737488351232) (hx : ∀ b ∈ l, b < 256) (ha0 : -9223372036854775808 ≤ a) (ha1 : a ≤ 9223372036854775807) (hT : Hf w) :
    Calls Tryd.prog 8 #[v, .int .i64 a] w fun e w' => e = .returned (.bool true) ∧ Below w.heap.size w w' := by
  obtain ⟨i0, hi, hz0, hz1, hz2⟩ := info13 Tryd.infoB13
  obtain ⟨ao, cc, hvf, hcc, -⟩ := id hv
  have HT := hid13 hT
  have HV := hid13 hv
  have HX := hid13 hx
  have HC := hid13 hcc
  subst hvf
  clear hA hv hx hT ha0 ha1 hcc hl
  go_enter Tryd.func8, Tryd.ntmps8
  go_wp2_with fail
  refine (known17 _ HT.out).mono ?_
  rintro e w1 ⟨rfl, hb1⟩
  have HB1 := hid13 hb1
  clear hb1
  by_cases hl : (65536 : Int) < (l.length : Int)
  · go_wp2
    go_ret
    exact ⟨rfl, HB1.out⟩
  have HL : Hid (l.length ≤ 65536) := by show _ ≤ _; omega
  have K2 := open_any (.slice ao l.length cc) l a w1 (HV.out.below HB1.out) (by have := HL.out; omega) HX.out (HT.out.below HB1.out)
  by_cases h0 : opE l a = 0
  rotate_left 1
  · have hV := opV_no h0
    rw [hV.1, hV.2] at K2
    generalize opE l a = E at *
    have hn : (E != 0) = true := by simpa using h0
    clear h0 hV HV HX HC HL
    go_wp2_with fail
    refine K2.mono ?_
    rintro e w2 ⟨v2, rfl, hO2, hb2⟩
    obtain ⟨ao2, c2, hv2⟩ := own_form hO2
    subst hv2
    have q3 := bl1 w2 (.cells #[.int .i64 0, .int .i64 0, .int .i64 0, .int .i64 0] 23)
    have HB2 := hid13 (keepb q3 (keepb hb2 HB1.out))
    have hq := eqH_run 0 0 0 0 0 0 0 0
    clear K2 hO2 hb2 HB1 q3
    go_wp2
    go_ret
    exact ⟨rfl, HB2.out⟩
  have hat : 0 ≤ a ∧ a ≤ (l.length : Int) := by
    unfold opE at h0
    split at h0
    · cases h0
    · omega
  obtain ⟨k, rfl⟩ : ∃ k : Nat, a = (k : Int) := ⟨a.toNat, by omega⟩
  have hof : ofE (l.drop k) = 0 := by
    unfold opE at h0
    rw [if_neg (by omega), Int.toNat_natCast] at h0
    exact h0
  obtain ⟨p1, p2⟩ := of_again hof (fun b hb => HX.out b (List.mem_of_mem_drop hb))
  obtain ⟨-, -, -, g4, g5⟩ := rd_zero (of_zero hof).1
  have hV : opV l (k : Int) = .agg #[.int .i64 ((rW (l.drop k) : Nat) : Int), .int .i64 ((rD (l.drop k) : Nat) : Int), .int .i64 ((rS (l.drop k) : Nat) : Int), .int .i64 ((rN (l.drop k) : Nat) : Int)] := by unfold opV; rw [if_pos h0, Int.toNat_natCast]
  have hC : opC l (k : Int) = rC (l.drop k) := by unfold opC; rw [if_pos h0, Int.toNat_natCast]
  have hCx : ∀ b ∈ rC (l.drop k), b < 256 := fun b hb => HX.out b (List.mem_of_mem_drop (List.mem_of_mem_drop (List.mem_of_mem_take hb)))
  have hCl : (rC (l.drop k)).length = 4 * rN (l.drop k) := rC_len (of_zero hof).1
  have hP : pkB ((rW (l.drop k) : Nat) : Int) ((rD (l.drop k) : Nat) : Int) ((rS (l.drop k) : Nat) : Int) ((rN (l.drop k) : Nat) : Int) (rC (l.drop k)) = (l.drop k).take (16 + 4 * rN (l.drop k)) := by
    unfold pkB
    rw [if_pos p1, Int.toNat_natCast, Int.toNat_natCast, Int.toNat_natCast, Int.toNat_natCast, p2]
  have K3 := fun v3 w3 (hA : RowA w3 1 v3 (rC (l.drop k)).length ((rC (l.drop k)).map cB)) (hv : RwX cB w3 v3 (rC (l.drop k))) (hT : Hf w3) => pack_any ((rW (l.drop k) : Nat) : Int) ((rD (l.drop k) : Nat) : Int) ((rS (l.drop k) : Nat) : Int) ((rN (l.drop k) : Nat) : Int) v3 _ w3 hA hv (by rw [hCl]; omega) hCx hT
  rw [p1, hP] at K3
  rw [hV, hC, h0] at K2
  obtain ⟨dn, hdn⟩ : ∃ dn, dn = 16 + 4 * rN (l.drop k) := ⟨_, rfl⟩
  have hdl : k + dn ≤ l.length := by rw [List.length_drop] at g5; omega
  rw [← hdn] at K3
  have hYl : ((l.drop k).take dn).length = dn := by rw [List.length_take, List.length_drop]; omega
  rw [hYl] at K3
  have HSl : Hid (∀ X, Sem.run Tryd.prog (Instr.sliceAt 24 (.slice ao l.length cc) (some (.int .i64 (k : Int))) (some (.int .i64 ((k : Int) + (dn : Int)))) none) X = .ok (.slice (if cc = k then ao else ao.map (·.add (k * 1))) dn (cc - k)) X) := hid13 (fun X => by
    have := slice_mid17 (P := Tryd.prog) (w := X) Tryd.underlying24 hi hz1 ao l.length cc k (k + dn) (by omega) (by have := HC.out; omega)
    rw [show ((k + dn : Nat) : Int) = (k : Int) + (dn : Int) by push_cast; rfl, show k + dn - k = dn by omega] at this
    exact this)
  have HRs : Hid (∀ X, RwX cB X (.slice ao l.length cc) l → RwX cB X (.slice (if cc = k then ao else ao.map (·.add (k * 1))) dn (cc - k)) ((l.drop k).take dn)) := hid13 (fun X h => rwx_mid17 h hdl)
  have HYx : Hid (∀ b ∈ (l.drop k).take dn, b < 256) := hid13 (fun b hb => HX.out b (List.mem_of_mem_drop (List.mem_of_mem_take hb)))
  have hkd : (k : Int) + (dn : Int) ≤ (l.length : Int) := by omega
  have mkd : IntKind.i64.wrap ((k : Int) + (dn : Int)) = (k : Int) + (dn : Int) := by rw [IntKind.wrap_i64]; omega
  obtain ⟨x0, hx0⟩ : ∃ x : Int, x = (rW (l.drop k) : Int) := ⟨_, rfl⟩
  obtain ⟨x1, hx1⟩ : ∃ x : Int, x = (rD (l.drop k) : Int) := ⟨_, rfl⟩
  obtain ⟨x2, hx2⟩ : ∃ x : Int, x = (rS (l.drop k) : Int) := ⟨_, rfl⟩
  obtain ⟨x3, hx3⟩ : ∃ x : Int, x = (rN (l.drop k) : Int) := ⟨_, rfl⟩
  rw [← hx0, ← hx1, ← hx2, ← hx3] at K2 K3
  have HYl := hid13 hYl
  generalize (l.drop k).take dn = Y at *
  generalize (if cc = k then ao else ao.map (·.add (k * 1))) = so at *
  generalize cc - k = sc at *
  generalize rC (l.drop k) = L at *
  clear hx0 hx1 hx2 hx3 hdn hV hC hP p1 p2 g4 g5 hCx hCl hof h0 hat hdl hi hz0 hz1 hz2 hYl
  go_wp2_with fail
  refine K2.mono ?_
  rintro e w2 ⟨v2, rfl, hO2, hb2⟩
  obtain ⟨ao2, c2, hv2⟩ := own_form hO2
  subst hv2
  have q3 := bl1 w2 (.cells #[.int .i64 x0, .int .i64 x1, .int .i64 x2, .int .i64 x3] 23)
  have HB3 := hid13 (keepb q3 (keepb hb2 HB1.out))
  have K4 := K3 _ _ ((own_rowA hO2).below q3) ((own_rwx hO2).below q3) (HT.out.below HB3.out)
  clear K2 K3 hO2 hb2 HB1 q3
  go_wp2_with fail
  refine K4.mono ?_
  rintro e w4 ⟨v4, rfl, hO4, hb4⟩
  obtain ⟨da, dc, hv4⟩ := own_form hO4
  subst hv4
  have HB4 := hid13 (keepb hb4 HB3.out)
  have HD4 := hid13 (show RwX cB w4 (.slice da dn dc) Y from own_rwx (l := Y) (by rw [HYl.out]; exact hO4))
  have HV4 := hid13 (HV.out.below HB4.out)
  clear K4 hO4 hb4 HB3 HV
  go_wp2_with fail
  refine qw_region (C := fun X => RwX cB X (.slice ao l.length cc) l ∧ RwX cB X (.slice da dn dc) Y ∧ Below w.heap.size w X) (by kernel_rfl) (by kernel_rfl) ⟨HV4.out.below (below_drewN (Below.refl _ _) 1), HD4.out.below (below_drewN (Below.refl _ _) 1), HB4.out.drew⟩ ?_
  clear HV4 HD4 HB4
  refine qw_run (v := .int .i64 0) (by rfl) ?_ ?_
  · (intro w9 hC; clear hC; go_simp; first | done | (simp; done) | (simp [*]; done) | omega | (simp; omega) | (rw [IntKind.wrap_i64]; omega) | (intro hx; omega) | rfl)
  simp only [Act.put, List.setIfInBounds_toArray, List.set_cons_zero, List.set_cons_succ]
  refine qw_run (v := .bool true) (by rfl) ?_ ?_
  · (intro w9 hC; clear hC; go_simp; first | done | (simp; done) | (simp [*]; done) | omega | (simp; omega) | (rw [IntKind.wrap_i64]; omega) | (intro hx; omega) | rfl)
  simp only [Act.put, List.setIfInBounds_toArray, List.set_cons_zero, List.set_cons_succ]
  refine qw_run (v := .bool true) (by rfl) ?_ ?_
  · (intro w9 hC; clear hC; go_simp; first | done | (simp; done) | (simp [*]; done) | omega | (simp; omega) | (rw [IntKind.wrap_i64]; omega) | (intro hx; omega) | rfl)
  simp only [Act.put, List.setIfInBounds_toArray, List.set_cons_zero, List.set_cons_succ]
  refine qw_run (v := .int .i64 (k : Int)) (by rfl) ?_ ?_
  · (intro w9 hC; clear hC; go_simp; first | done | (simp; done) | (simp [*]; done) | omega | (simp; omega) | (rw [IntKind.wrap_i64]; omega) | (intro hx; omega) | rfl)
  simp only [Act.put, List.setIfInBounds_toArray, List.set_cons_zero, List.set_cons_succ]
  refine qw_run (v := .bool true) (by rfl) ?_ ?_
  · (intro w9 hC; clear hC; go_simp; first | done | (simp; done) | (simp [*]; done) | omega | (simp; omega) | (rw [IntKind.wrap_i64]; omega) | (intro hx; omega) | rfl)
  simp only [Act.put, List.setIfInBounds_toArray, List.set_cons_zero, List.set_cons_succ]
  refine qw_run (v := .bool true) (by rfl) ?_ ?_
  · (intro w9 hC; clear hC; go_simp; first | done | (simp; done) | (simp [*]; done) | omega | (simp; omega) | (rw [IntKind.wrap_i64]; omega) | (intro hx; omega) | rfl)
  simp only [Act.put, List.setIfInBounds_toArray, List.set_cons_zero, List.set_cons_succ]
  refine qw_run (v := .bool true) (by rfl) ?_ ?_
  · (intro w9 hC; clear hC; go_simp; first | done | (simp; done) | (simp [*]; done) | omega | (simp; omega) | (rw [IntKind.wrap_i64]; omega) | (intro hx; omega) | rfl)
  simp only [Act.put, List.setIfInBounds_toArray, List.set_cons_zero, List.set_cons_succ]
  refine qw_run (v := .int .i64 (k : Int)) (by rfl) ?_ ?_
  · (intro w9 hC; clear hC; go_simp; first | done | (simp; done) | (simp [*]; done) | omega | (simp; omega) | (rw [IntKind.wrap_i64]; omega) | (intro hx; omega) | rfl)
  simp only [Act.put, List.setIfInBounds_toArray, List.set_cons_zero, List.set_cons_succ]
  refine qw_run (v := .slice da dn dc) (by rfl) ?_ ?_
  · (intro w9 hC; clear hC; go_simp; first | done | (simp; done) | (simp [*]; done) | omega | (simp; omega) | (rw [IntKind.wrap_i64]; omega) | (intro hx; omega) | rfl)
  simp only [Act.put, List.setIfInBounds_toArray, List.set_cons_zero, List.set_cons_succ]
  refine qw_run (v := .int .i64 (dn : Int)) (by rfl) ?_ ?_
  · (intro w9 hC; clear hC; go_simp; first | done | (simp; done) | (simp [*]; done) | omega | (simp; omega) | (rw [IntKind.wrap_i64]; omega) | (intro hx; omega) | rfl)
  simp only [Act.put, List.setIfInBounds_toArray, List.set_cons_zero, List.set_cons_succ]
  refine qw_run (v := .int .i64 ((k : Int) + (dn : Int))) (by rfl) ?_ ?_
  · (intro w9 hC; clear hC; go_simp; first | done | (simp; done) | (simp [*]; done) | omega | (simp; omega) | (rw [IntKind.wrap_i64]; omega) | (intro hx; omega) | rfl)
  simp only [Act.put, List.setIfInBounds_toArray, List.set_cons_zero, List.set_cons_succ]
  refine qw_run (v := .slice ao l.length cc) (by rfl) ?_ ?_
  · (intro w9 hC; clear hC; go_simp; first | done | (simp; done) | (simp [*]; done) | omega | (simp; omega) | (rw [IntKind.wrap_i64]; omega) | (intro hx; omega) | rfl)
  simp only [Act.put, List.setIfInBounds_toArray, List.set_cons_zero, List.set_cons_succ]
  refine qw_run (v := .int .i64 (l.length : Int)) (by rfl) ?_ ?_
  · (intro w9 hC; clear hC; go_simp; first | done | (simp; done) | (simp [*]; done) | omega | (simp; omega) | (rw [IntKind.wrap_i64]; omega) | (intro hx; omega) | rfl)
  simp only [Act.put, List.setIfInBounds_toArray, List.set_cons_zero, List.set_cons_succ]
  refine qw_run (v := .bool true) (by rfl) ?_ ?_
  · (intro w9 hC; clear hC; go_simp; first | done | (simp; done) | (simp [*]; done) | omega | (simp; omega) | (rw [IntKind.wrap_i64]; omega) | (intro hx; omega) | rfl)
  simp only [Act.put, List.setIfInBounds_toArray, List.set_cons_zero, List.set_cons_succ]
  refine qw_run (v := .bool true) (by rfl) ?_ ?_
  · (intro w9 hC; clear hC; go_simp; first | done | (simp; done) | (simp [*]; done) | omega | (simp; omega) | (rw [IntKind.wrap_i64]; omega) | (intro hx; omega) | rfl)
  simp only [Act.put, List.setIfInBounds_toArray, List.set_cons_zero, List.set_cons_succ]
  refine qw_run (v := .bool true) (by rfl) ?_ ?_
  · (intro w9 hC; clear hC; go_simp; first | done | (simp; done) | (simp [*]; done) | omega | (simp; omega) | (rw [IntKind.wrap_i64]; omega) | (intro hx; omega) | rfl)
  simp only [Act.put, List.setIfInBounds_toArray, List.set_cons_zero, List.set_cons_succ]
  refine qw_run (v := .slice ao l.length cc) (by rfl) ?_ ?_
  · (intro w9 hC; clear hC; go_simp; first | done | (simp; done) | (simp [*]; done) | omega | (simp; omega) | (rw [IntKind.wrap_i64]; omega) | (intro hx; omega) | rfl)
  simp only [Act.put, List.setIfInBounds_toArray, List.set_cons_zero, List.set_cons_succ]
  refine qw_run (v := .int .i64 (k : Int)) (by rfl) ?_ ?_
  · (intro w9 hC; clear hC; go_simp; first | done | (simp; done) | (simp [*]; done) | omega | (simp; omega) | (rw [IntKind.wrap_i64]; omega) | (intro hx; omega) | rfl)
  simp only [Act.put, List.setIfInBounds_toArray, List.set_cons_zero, List.set_cons_succ]
  refine qw_run (v := .int .i64 (k : Int)) (by rfl) ?_ ?_
  · (intro w9 hC; clear hC; go_simp; first | done | (simp; done) | (simp [*]; done) | omega | (simp; omega) | (rw [IntKind.wrap_i64]; omega) | (intro hx; omega) | rfl)
  simp only [Act.put, List.setIfInBounds_toArray, List.set_cons_zero, List.set_cons_succ]
  refine qw_run (v := .slice da dn dc) (by rfl) ?_ ?_
  · (intro w9 hC; clear hC; go_simp; first | done | (simp; done) | (simp [*]; done) | omega | (simp; omega) | (rw [IntKind.wrap_i64]; omega) | (intro hx; omega) | rfl)
  simp only [Act.put, List.setIfInBounds_toArray, List.set_cons_zero, List.set_cons_succ]
  refine qw_run (v := .int .i64 (dn : Int)) (by rfl) ?_ ?_
  · (intro w9 hC; clear hC; go_simp; first | done | (simp; done) | (simp [*]; done) | omega | (simp; omega) | (rw [IntKind.wrap_i64]; omega) | (intro hx; omega) | rfl)
  simp only [Act.put, List.setIfInBounds_toArray, List.set_cons_zero, List.set_cons_succ]
  refine qw_run (v := .int .i64 ((k : Int) + (dn : Int))) (by rfl) ?_ ?_
  · (intro w9 hC; clear hC; go_simp; first | done | (simp; done) | (simp [*]; done) | omega | (simp; omega) | (rw [IntKind.wrap_i64]; omega) | (intro hx; omega) | rfl)
  simp only [Act.put, List.setIfInBounds_toArray, List.set_cons_zero, List.set_cons_succ]
  refine qw_run (v := .slice so dn sc) (by rfl) ?_ ?_
  · (intro w9 hC; clear hC; exact ex17 (HSl.out w9))
  simp only [Act.put, List.setIfInBounds_toArray, List.set_cons_zero, List.set_cons_succ]
  refine qw_run (v := .string (bsA Y)) (by rfl) ?_ ?_
  · (intro w9 hC; have r0 := conv13 (HRs.out w9 hC.1) HYx.out; clear hC; exact ex17 r0)
  simp only [Act.put, List.setIfInBounds_toArray, List.set_cons_zero, List.set_cons_succ]
  refine qw_run (v := .slice da dn dc) (by rfl) ?_ ?_
  · (intro w9 hC; clear hC; go_simp; first | done | (simp; done) | (simp [*]; done) | omega | (simp; omega) | (rw [IntKind.wrap_i64]; omega) | (intro hx; omega) | rfl)
  simp only [Act.put, List.setIfInBounds_toArray, List.set_cons_zero, List.set_cons_succ]
  refine qw_run (v := .string (bsA Y)) (by rfl) ?_ ?_
  · (intro w9 hC; have r0 := conv13 hC.2.1 HYx.out; clear hC; exact ex17 r0)
  simp only [Act.put, List.setIfInBounds_toArray, List.set_cons_zero, List.set_cons_succ]
  refine qw_run (v := .bool true) (by rfl) ?_ ?_
  · (intro w9 hC; clear hC; go_simp; first | done | (simp; done) | (simp [*]; done) | omega | (simp; omega) | (rw [IntKind.wrap_i64]; omega) | (intro hx; omega) | rfl)
  simp only [Act.put, List.setIfInBounds_toArray, List.set_cons_zero, List.set_cons_succ]
  refine qw_run (v := .bool true) (by rfl) ?_ ?_
  · (intro w9 hC; clear hC; go_simp; first | done | (simp; done) | (simp [*]; done) | omega | (simp; omega) | (rw [IntKind.wrap_i64]; omega) | (intro hx; omega) | rfl)
  simp only [Act.put, List.setIfInBounds_toArray, List.set_cons_zero, List.set_cons_succ]
  refine qw_run (v := .bool true) (by rfl) ?_ ?_
  · (intro w9 hC; clear hC; go_simp; first | done | (simp; done) | (simp [*]; done) | omega | (simp; omega) | (rw [IntKind.wrap_i64]; omega) | (intro hx; omega) | rfl)
  simp only [Act.put, List.setIfInBounds_toArray, List.set_cons_zero, List.set_cons_succ]
  refine qw_nil ?_
  intro w8 hX
  have HB := hid13 hX.2.2
  clear hX
  go_wp2
  exact bodyPost_ret (v := .bool true) (by simp [results, Tryd.results8, go_sem]) rfl ⟨rfl, HB.out⟩
end Go.Proofs.YtgbhbooogofmbaaDoor
namespace Go.Proofs.YtgbhbooogofmbaaDoor
open Go.ChangeShapes Go.WideShapes Go.ChangeAt Go.RowKit Go.Joins
set_option linter.unusedSimpArgs false
set_option linter.unusedVariables false

theorem Tryd.laidOut : laidOutB Tryd.prog = true := by kernel_rfl
theorem reach13 : reachBytes ≤ 140737488351232 := by decide
section
variable {H : Type} {enc : TypeId × Value → H} {w : World} {spare : Nat → Bool} {held : Bool}
theorem RwX.map13 {α β : Type} {f : α → Value} {g : β → Value} (h : α → β) {v : Value} {l : List α} (hr : RwX f w v l) (he : ∀ x ∈ l, f x = g (h x)) : RwX g w v (l.map h) := by
  obtain ⟨ao, c, e, hc, hr⟩ := hr
  refine ⟨ao, c, by rw [List.length_map]; exact e, by rw [List.length_map]; exact hc, ?_⟩
  rcases hr with hr | ⟨b, off, e, hr⟩
  · exact .inl (by rw [hr]; rfl)
  · refine .inr ⟨b, off, e, fun j x hj => ?_⟩
    rw [List.getElem?_map] at hj
    cases hx : l[j]? with
    | none => rw [hx] at hj; cases hj
    | some y =>
      rw [hx] at hj
      simp only [Option.map_some, Option.some.injEq] at hj
      rw [hr j y hx, he y (List.mem_of_getElem? hx), hj]
set_option maxRecDepth 100000 in
theorem open_ints13 {t e : TypeId} {k : IntKind} (ht : Tryd.prog.underlying t = some (.slice e)) (he : Tryd.prog.underlying e = some (.int k)) (hce : Tryd.prog.cellsOf e = 1) {r : Reach} {b0 : Nat} {v : Value} {d : DataW H} {p : List MemPlace} (hv : Value.okWide Tryd.prog w r b0 t v) (h : DataW.Trod enc Tryd.prog w 0 (fun _ => true) held t v d p) :
    ∃ l : List Int, RowA w 1 v l.length (l.map fun a => .int k a) ∧ RwX (fun a => Value.int k a) w v l ∧ (∀ a ∈ l, (Lit.int k a).wf = true) ∧ (l = [] ∨ ∃ el sp, d = .slice el sp ∧ el.length = l.length) := by
  obtain ⟨a0, len, cap, rfl⟩ := okWide_slice ht hv
  obtain ⟨fuel, hf⟩ := h
  rcases Deep.open_slice ht hf with ⟨hcs, hx⟩ | ⟨a, len', cap', m, n, D, Pl, hcs, _, hl, hm, hmm, hx, hel⟩
  · simp [Value.cells] at hcs
    obtain ⟨rfl, rfl, rfl⟩ := hcs
    exact ⟨[], ⟨rfl, none, 0, rfl, Nat.le_refl _, .inl ⟨rfl, rfl, rfl⟩⟩, ⟨none, 0, rfl, Nat.le_refl _, .inl rfl⟩, (fun _ h => by cases h), .inl rfl⟩
  · simp [Value.cells] at hcs
    obtain ⟨rfl, rfl, rfl⟩ := hcs
    simp at hmm
    subst hmm
    rw [hce] at hel
    obtain ⟨f, hf⟩ := Deep.choose_lt (α := Int) (n := len) (p := fun i x => w.cell? (a.add i) = some (.int k x) ∧ (Lit.int k x).wf = true) (fun i hi => by
      obtain ⟨cs', h1, h2⟩ := hel i (by omega)
      obtain ⟨_, hlen, hc⟩ := World.cells?_some h1
      match cs', hlen with
      | [c0], _ =>
        obtain ⟨x, ex, -, wx⟩ := DataW.trod_int he h2
        simp at ex
        subst ex
        refine ⟨x, ?_, wx⟩
        have := hc 0 (by omega)
        simpa [Addr.add] using this)
    have hlen : ((List.range len).map f).length = len := by simp
    have hcells : ∀ j x, ((List.range len).map f)[j]? = some x → w.cell? (a.add j) = some (.int k x) := by
      intro j x hj
      have hlt : j < len := by have := (List.getElem?_eq_some_iff.1 hj).1; simpa using this
      rw [List.getElem?_map, List.getElem?_range hlt] at hj
      simp only [Option.map_some, Option.some.injEq] at hj
      rw [← hj]; exact (hf j hlt).1
    refine ⟨(List.range len).map f, ⟨by simp, some a, m, by rw [hlen], by rw [hlen]; exact hl, .inr ⟨a, rfl, fun j u hj => ?_⟩⟩, ⟨some a, m, by rw [hlen], by rw [hlen]; exact hl, ?_⟩, ?_, ?_⟩
    · rw [List.getElem?_map] at hj
      cases hx : ((List.range len).map f)[j]? with
      | none => rw [hx] at hj; cases hj
      | some y =>
        rw [hx] at hj
        simp only [Option.map_some, Option.some.injEq] at hj
        rw [← hj]; exact hcells j y hx
    · by_cases hz : len = 0
      · subst hz
        exact .inl (by simp)
      · have h00 := (hf 0 (by omega)).1
        have ea : a = ⟨a.block, a.off, none⟩ := by
          have : a.add 0 = a := by simp [Addr.add]
          rw [this] at h00
          exact spot9 h00
        refine .inr ⟨a.block, a.off, by rw [← ea], fun j u hj => ?_⟩
        have := hcells j u hj
        rw [ea, addA] at this
        exact this
    · intro x hx
      simp only [List.mem_map, List.mem_range] at hx
      obtain ⟨i, hi, rfl⟩ := hx
      exact (hf i hi).2
    · simp only [Prod.mk.injEq] at hx
      exact .inr ⟨_, _, hx.1, by simp⟩
end
end Go.Proofs.YtgbhbooogofmbaaDoor
