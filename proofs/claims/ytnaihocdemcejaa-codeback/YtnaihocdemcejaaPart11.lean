/-
  Part 11 of the proof: 1 texts, one behind the other.
-/
import Derived.Test.YtnaihocdemcejaaPart10
/-
  The law CodeAgain.
-/
namespace Go.Proofs.Ytnaihocdemcejaa
open Go.RowKit
set_option linter.unusedSimpArgs false
set_option linter.unusedVariables false

theorem run_slice_mid {P : Program} {w : World} {t e : TypeId} {i : TypeInfo} {size : Nat} (ht : P.underlying t = some (.slice e)) (hi : P.info? e = some i) (hsize : i.size = size) (ao : Option Addr) (n c k h : Nat) (hk : k ≤ h) (hh : h ≤ c) :
    Sem.run P (Instr.sliceAt t (.slice ao n c) (some (.int .i64 k)) (some (.int .i64 h)) none) w = .ok (.slice (if c = k then ao else ao.map (·.add (k * size))) (h - k) (c - k)) w := by
  subst hsize
  simp [Instr.sliceAt, Instr.slice, Instr.sliceBounds, Instr.sliceBound, run_underlying ht, sizeOf, typeInfo, hi, hk, hh, go_sem]
theorem ex14 {P : Program} {w : World} {s : Sem Value} {v : Value} (h : s.run P w = .ok v w) : (do pure (Next.value (← s)) : Sem Next).run P w = .ok (.value v) w := by
  simp only [Sem.run_bind, h, Sem.run_pure, Result.andThen_ok]
theorem dcI_len (l : List Nat) (a : Int) : (dcI l a).m.length ≤ 524288 := by
  unfold dcI
  split
  · exact rdP_len _ _
  · simp
/-- A part of a row. -/
theorem rwx_mid {W : World} {b off n c : Nat} {l : List Nat} (h : RwX cB W (.slice (some ⟨b, off, none⟩) n c) l) (k z : Nat) (hk : k + z ≤ l.length) : RwX cB W (.slice (some ⟨b, off + k, none⟩) z (c - k)) ((l.drop k).take z) := by
  obtain ⟨ao, c', e, hc, hr⟩ := h
  injection e with e1 e2 e3
  subst e1 e3
  have hl : ((l.drop k).take z).length = z := by rw [List.length_take, List.length_drop]; omega
  refine ⟨_, _, by rw [hl], by rw [hl]; omega, ?_⟩
  rcases hr with hr | ⟨b', off', e, hr⟩
  · exact .inl (by rw [hr]; simp)
  · injection e with e
    injection e with e1 e2
    subst e1 e2
    refine .inr ⟨b, off + k, rfl, fun j x hj => ?_⟩
    rw [List.getElem?_take] at hj
    split at hj
    · rw [List.getElem?_drop] at hj
      rw [Nat.add_assoc]
      exact hr _ _ hj
    · cases hj
set_option maxRecDepth 100000 in
set_option maxHeartbeats 16000000 in
theorem codeAgain_any (v : Value) (l : List Nat) (a : Int) (w : World) (hA : RowA w 1 v l.length (l.map cB)) (hv : RwX cB w v l) (hx : ∀ b ∈ l, b < 256) (ha0 : -9223372036854775808 ≤ a) (ha1 : a ≤ 9223372036854775807) :
    Calls Try.prog 7 #[v, .int .i64 a] w fun e w' => e = .returned (.bool true) ∧ Below w.heap.size w w' := by
  obtain ⟨i0, hi, hz0, hz1, hz2⟩ := info13 Try.infoB13
  obtain ⟨ao, cc, hvf, -⟩ := id hv
  have HV := hid13 hv
  have HX := hid13 hx
  subst hvf
  clear hv hx hA ha0 ha1
  go_enter Try.func7, Try.ntmps7
  go_wp2_with fail
  refine (known14 _).mono ?_
  rintro e w2 ⟨rfl, hb2⟩
  have HB2 := hid13 hb2
  clear hb2
  by_cases h1 : (65536 : Int) < (l.length : Int)
  · go_wp2
    go_ret
    exact ⟨rfl, HB2.out⟩
  have hl : l.length ≤ 65536 := by omega
  have hq0 : 0 ≤ (l.length : Int) / 4 := by omega
  have hq1 : (l.length : Int) / 4 ≤ 16384 := by omega
  have mw : IntKind.i64.wrap ((l.length : Int) / 4 + 2) = (l.length : Int) / 4 + 2 := by rw [IntKind.wrap_i64]; omega
  obtain ⟨D, hD⟩ : ∃ D : Int, D = (l.length : Int) / 4 + 2 := ⟨_, rfl⟩
  have hW := wth_in a D (by omega)
  have K3 := fun w => within14 a D (by omega) (by omega) w
  obtain ⟨k, hk⟩ : ∃ k : Nat, wth a D = (k : Int) := ⟨(wth a D).toNat, by omega⟩
  rw [hk] at K3 hW
  rw [hD] at K3
  have K4 := decode_any (.slice ao l.length cc) l (k : Int) w2 (HV.out.below HB2.out) (by omega) HX.out
  have HK : Hid (l.length ≤ 65536 ∧ k ≤ 16386) := ⟨hl, by omega⟩
  clear hl hk hD
  go_wp2_with (go_at_call 20; refine (K3 _).mono ?_; rintro e w3 ⟨rfl, hw3⟩; replace hw3 := hw3.symm; subst hw3)
  refine K4.mono ?_
  rintro e w4 ⟨v4, rfl, hO4, hb4⟩
  have HB4 := hid13 (keepb hb4 HB2.out)
  have HO4 := hid13 hO4
  have HIl := hid13 (dcI_len l (k : Int))
  have HED := hid13 (fun h => enc_dec l (k : Int) HX.out h)
  obtain ⟨I, hI⟩ : ∃ I, I = dcI l (k : Int) := ⟨_, rfl⟩
  obtain ⟨E, hE⟩ : ∃ E, E = dcE l (k : Int) := ⟨_, rfl⟩
  obtain ⟨Z, hZ⟩ : ∃ Z, Z = dcZ l (k : Int) := ⟨_, rfl⟩
  have HZ0 : Hid (E ≠ 0 → I = ⟨0, 0, []⟩ ∧ Z = 0) := by
    intro h
    rw [hE] at h
    exact ⟨by rw [hI]; unfold dcI; rw [if_neg h], by rw [hZ]; unfold dcZ; rw [if_neg h]⟩
  have HZ1 : Hid (E = 0 → Z = 1 + (I.m.length : Int)) := by
    intro h
    rw [hE] at h
    rw [hZ, hI]
    unfold dcZ
    rw [if_pos h]
  rw [← hI] at HO4 HIl HED ⊢
  rw [← hE] at HED ⊢
  rw [← hZ]
  obtain ⟨ao4, c4, hv4⟩ := own_form HO4.out
  subst hv4
  unfold insV
  have q5 := bl1 w4 (.cells #[.int .i64 I.op, .int .i64 I.n, .slice ao4 I.m.length c4] 24)
  have HB5 := hid13 (keepb q5 HB4.out)
  have HI5 := hid13 (ati_new w4 I.op I.n (.slice ao4 I.m.length c4) 24)
  have HO5 := hid13 (own_rwx (own_b13 q5 HO4.out))
  clear hO4 hb4 q5 K3 K4 hI hE hZ HO4 HB4 HB2 hW mw
  by_cases hE : E = 0
  · subst hE
    have hz := HZ1.out rfl
    obtain ⟨e1, e2, e3⟩ := HED.out rfl
    rw [Int.toNat_natCast] at e2 e3
    obtain ⟨z, hzn⟩ : ∃ z : Nat, z = 1 + I.m.length := ⟨_, rfl⟩
    have hzZ : Z = (z : Int) := by rw [hz, hzn]; omega
    subst hzZ
    have K6 := encode_any (.slice none 0 0) [] I.op I.n (.slice ao4 I.m.length c4) I.m _ (rowA_nil _ 1) HO5.out (by simp) (by have := HIl.out; omega)
    have e4 : enL [] I.op I.n I.m = wdB I.op.toNat I.n.toNat I.m := by unfold enL; rw [if_pos e1]; rfl
    rw [e1, e4, e2, ← hzn] at K6
    have HKK : Hid (k + z ≤ l.length / 4 ∧ 1 ≤ z ∧ z ≤ 20000 ∧ z = 1 + I.m.length ∧ chkE I.op I.n I.m = 0) := ⟨by omega, by omega, by have := HK.out; omega, hzn, e1⟩
    obtain ⟨i0', i1', i2'⟩ := HI5.out
    clear hz e2 e3 e4 hzn HED HZ0 HZ1 e1
    go_wp2_with fail
    refine K6.mono ?_
    rintro e w6 ⟨v6, rfl, hO6, hb6⟩
    have hYl : ((l.drop (4 * k)).take (4 * z)).length = 4 * z := by rw [List.length_take, List.length_drop]; have := HKK.out; omega
    have HR6 := hid13 (own_rwx hO6)
    obtain ⟨Y, hY⟩ : ∃ Y, Y = (l.drop (4 * k)).take (4 * z) := ⟨_, rfl⟩
    rw [← hY] at hO6 HR6 hYl
    obtain ⟨ao6, c6, hv6⟩ := own_form hO6
    subst hv6
    have HB6 := hid13 (keepb hb6 HB5.out)
    have HI6 := hid13 (HI5.out.below hb6)
    have HO6 := hid13 (HO5.out.below hb6)
    obtain ⟨bo, off, hao⟩ : ∃ bo off, ao = some ⟨bo, off, none⟩ := by
      obtain ⟨ao', c', e, hc, hr⟩ := HV.out
      injection e with e1 e2 e3
      subst e1
      rcases hr with hr | ⟨b, off, e, -⟩
      · have := HKK.out; rw [hr] at this; simp at this; omega
      · exact ⟨b, off, e⟩
    subst hao
    have hcc : l.length ≤ cc := by
      obtain ⟨ao', c', e, hc, -⟩ := HV.out
      injection e with e1 e2 e3
      omega
    have HV6 := hid13 (HV.out.below HB6.out)
    have HYb : Hid (∀ b ∈ Y, b < 256) := by intro b hb; rw [hY] at hb; exact HX.out b (List.mem_of_mem_drop (List.mem_of_mem_take hb))
    have HMid : Hid (∀ W, RwX cB W (.slice (some ⟨bo, off, none⟩) l.length cc) l → RwX cB W (.slice (some ⟨bo, off + 4 * k, none⟩) (4 * z) (cc - 4 * k)) Y) := by
      intro W hW
      rw [hY]
      exact rwx_mid hW (4 * k) (4 * z) (by have := HKK.out; omega)
    have HSl : Hid (∀ W, Sem.run Try.prog (Instr.sliceAt 25 (.slice (some ⟨bo, off, none⟩) l.length cc) (some (.int .i64 (4 * (k : Int)))) (some (.int .i64 (4 * (k : Int) + 4 * (z : Int)))) none) W = .ok (.slice (some ⟨bo, off + 4 * k, none⟩) (4 * z) (cc - 4 * k)) W) := by
      intro W
      have := run_slice_mid (P := Try.prog) (w := W) (t := 25) Try.underlying25 hi hz1 (some ⟨bo, off, none⟩) l.length cc (4 * k) (4 * k + 4 * z) (by omega) (by have := HKK.out; omega)
      rw [if_neg (by have := HKK.out; omega), show 4 * k + 4 * z - 4 * k = 4 * z by omega] at this
      simp only [Option.map_some, addA, Nat.mul_one] at this
      push_cast at this
      exact this
    have KC : ∀ W, RwX cU W (.slice ao4 I.m.length c4) I.m → Calls Try.prog 10 #[.agg #[.int .i64 I.op, .int .i64 I.n, .slice ao4 I.m.length c4]] W fun e w' => e = .returned (.int .i64 0) ∧ Below W.heap.size W w' := by
      intro W hW
      have := check_any I.op I.n _ I.m W hW
      rw [HKK.out.2.2.2.2] at this
      exact this
    have KZ9 : ∀ W, RwX cU W (.slice ao4 I.m.length c4) I.m → Calls Try.prog 11 #[.agg #[.int .i64 I.op, .int .i64 I.n, .slice ao4 I.m.length c4]] W fun e w' => e = .returned (.int .i64 (z : Int)) ∧ Below W.heap.size W w' := by
      intro W hW
      have := size_any I.op I.n _ I.m W hW (by have := HIl.out; omega)
      have e : szI I.op I.n I.m = (z : Int) := by unfold szI; rw [if_pos HKK.out.2.2.2.2, HKK.out.2.2.2.1]; omega
      rw [e] at this
      exact this
    have hkz : k + z ≤ 16384 := by have := HKK.out; have := HK.out; omega
    clear hO6 hb6 hY hYl HB5 HI5 HO5 i0' i1' i2' K6
    go_wp2_with fail
    refine qw_region (C := fun W => AtI W w4.heap.size I.op I.n (.slice ao4 I.m.length c4) ∧ RwX cU W (.slice ao4 I.m.length c4) I.m ∧ RwX cB W (.slice ao6 Y.length c6) Y ∧ RwX cB W (.slice (some ⟨bo, off, none⟩) l.length cc) l ∧ Below w.heap.size w W) (by kernel_rfl) (by kernel_rfl) ⟨HI6.out.below (below_drewN (Below.refl _ _) 1), HO6.out.below (below_drewN (Below.refl _ _) 1), HR6.out.below (below_drewN (Below.refl _ _) 1), HV6.out.below (below_drewN (Below.refl _ _) 1), HB6.out.drew⟩ ?_
    clear HI6 HO6 HR6 HV6 HB6
    refine qw_run (v := .int .i64 0) (by rfl) ?_ ?_
    · (intro w9 hC; clear hC; go_simp; first | done | (simp; done) | (simp [*]; done) | omega | (simp; omega) | (rw [IntKind.wrap_i64]; omega) | (intro hx; omega) | rfl)
    simp only [Act.put, List.setIfInBounds_toArray, List.set_cons_zero, List.set_cons_succ]
    refine qw_run (v := .bool true) (by rfl) ?_ ?_
    · (intro w9 hC; clear hC; go_simp; first | done | (simp; done) | (simp [*]; done) | omega | (simp; omega) | (rw [IntKind.wrap_i64]; omega) | (intro hx; omega) | rfl)
    simp only [Act.put, List.setIfInBounds_toArray, List.set_cons_zero, List.set_cons_succ]
    refine qw_run (v := .bool true) (by rfl) ?_ ?_
    · (intro w9 hC; clear hC; go_simp; first | done | (simp; done) | (simp [*]; done) | omega | (simp; omega) | (rw [IntKind.wrap_i64]; omega) | (intro hx; omega) | rfl)
    simp only [Act.put, List.setIfInBounds_toArray, List.set_cons_zero, List.set_cons_succ]
    refine qw_run (v := .agg #[.int .i64 I.op, .int .i64 I.n, .slice ao4 I.m.length c4]) (by rfl) ?_ ?_
    · (intro w9 hC; obtain ⟨x0, x1, x2⟩ := hC.1; clear hC; go_simp; first | done | (simp; done) | (simp [*]; done) | omega | (simp; omega) | (rw [IntKind.wrap_i64]; omega) | (intro hx; omega) | rfl)
    simp only [Act.put, List.setIfInBounds_toArray, List.set_cons_zero, List.set_cons_succ]
    refine qw_call (v := .int .i64 0) (f := 10) (args := #[.agg #[.int .i64 I.op, .int .i64 I.n, .slice ao4 I.m.length c4]]) (by rfl) ?_ ?_ ?_
    · (intro w9 hC; clear hC; go_simp; first | done | (simp; done) | rfl)
    · exact fun w9 hC => (KC w9 hC.2.1).mono fun e w' ⟨he, hb⟩ => ⟨he, ⟨hC.1.below hb, hC.2.1.below hb, hC.2.2.1.below hb, hC.2.2.2.1.below hb, keepb hb hC.2.2.2.2⟩⟩
    simp only [Act.put, List.setIfInBounds_toArray, List.set_cons_zero, List.set_cons_succ]
    refine qw_run (v := .bool true) (by rfl) ?_ ?_
    · (intro w9 hC; clear hC; go_simp; first | done | (simp; done) | (simp [*]; done) | omega | (simp; omega) | (rw [IntKind.wrap_i64]; omega) | (intro hx; omega) | rfl)
    simp only [Act.put, List.setIfInBounds_toArray, List.set_cons_zero, List.set_cons_succ]
    refine qw_run (v := .bool true) (by rfl) ?_ ?_
    · (intro w9 hC; clear hC; go_simp; first | done | (simp; done) | (simp [*]; done) | omega | (simp; omega) | (rw [IntKind.wrap_i64]; omega) | (intro hx; omega) | rfl)
    simp only [Act.put, List.setIfInBounds_toArray, List.set_cons_zero, List.set_cons_succ]
    refine qw_run (v := .bool true) (by rfl) ?_ ?_
    · (intro w9 hC; clear hC; go_simp; first | done | (simp; done) | (simp [*]; done) | omega | (simp; omega) | (rw [IntKind.wrap_i64]; omega) | (intro hx; omega) | rfl)
    simp only [Act.put, List.setIfInBounds_toArray, List.set_cons_zero, List.set_cons_succ]
    refine qw_run (v := .int .i64 (z : Int)) (by rfl) ?_ ?_
    · (intro w9 hC; clear hC; go_simp; first | done | (simp; done) | (simp [*]; done) | omega | (simp; omega) | (rw [IntKind.wrap_i64]; omega) | (intro hx; omega) | rfl)
    simp only [Act.put, List.setIfInBounds_toArray, List.set_cons_zero, List.set_cons_succ]
    refine qw_run (v := .agg #[.int .i64 I.op, .int .i64 I.n, .slice ao4 I.m.length c4]) (by rfl) ?_ ?_
    · (intro w9 hC; obtain ⟨x0, x1, x2⟩ := hC.1; clear hC; go_simp; first | done | (simp; done) | (simp [*]; done) | omega | (simp; omega) | (rw [IntKind.wrap_i64]; omega) | (intro hx; omega) | rfl)
    simp only [Act.put, List.setIfInBounds_toArray, List.set_cons_zero, List.set_cons_succ]
    refine qw_call (v := .int .i64 (z : Int)) (f := 11) (args := #[.agg #[.int .i64 I.op, .int .i64 I.n, .slice ao4 I.m.length c4]]) (by rfl) ?_ ?_ ?_
    · (intro w9 hC; clear hC; go_simp; first | done | (simp; done) | rfl)
    · exact fun w9 hC => (KZ9 w9 hC.2.1).mono fun e w' ⟨he, hb⟩ => ⟨he, ⟨hC.1.below hb, hC.2.1.below hb, hC.2.2.1.below hb, hC.2.2.2.1.below hb, keepb hb hC.2.2.2.2⟩⟩
    simp only [Act.put, List.setIfInBounds_toArray, List.set_cons_zero, List.set_cons_succ]
    refine qw_run (v := .bool true) (by rfl) ?_ ?_
    · (intro w9 hC; clear hC; go_simp; first | done | (simp; done) | (simp [*]; done) | omega | (simp; omega) | (rw [IntKind.wrap_i64]; omega) | (intro hx; omega) | rfl)
    simp only [Act.put, List.setIfInBounds_toArray, List.set_cons_zero, List.set_cons_succ]
    refine qw_run (v := .bool true) (by rfl) ?_ ?_
    · (intro w9 hC; clear hC; go_simp; first | done | (simp; done) | (simp [*]; done) | omega | (simp; omega) | (rw [IntKind.wrap_i64]; omega) | (intro hx; omega) | rfl)
    simp only [Act.put, List.setIfInBounds_toArray, List.set_cons_zero, List.set_cons_succ]
    refine qw_run (v := .bool true) (by rfl) ?_ ?_
    · (intro w9 hC; clear hC; go_simp; first | done | (simp; done) | (simp [*]; done) | omega | (simp; omega) | (rw [IntKind.wrap_i64]; omega) | (intro hx; omega) | rfl)
    simp only [Act.put, List.setIfInBounds_toArray, List.set_cons_zero, List.set_cons_succ]
    refine qw_run (v := .slice ao6 Y.length c6) (by rfl) ?_ ?_
    · (intro w9 hC; clear hC; go_simp; first | done | (simp; done) | (simp [*]; done) | omega | (simp; omega) | (rw [IntKind.wrap_i64]; omega) | (intro hx; omega) | rfl)
    simp only [Act.put, List.setIfInBounds_toArray, List.set_cons_zero, List.set_cons_succ]
    refine qw_run (v := .string (bsA Y)) (by rfl) ?_ ?_
    · (intro w9 hC; have r0 := conv13 hC.2.2.1 HYb.out; clear hC; exact ex14 r0)
    simp only [Act.put, List.setIfInBounds_toArray, List.set_cons_zero, List.set_cons_succ]
    refine qw_run (v := .slice (some ⟨bo, off, none⟩) l.length cc) (by rfl) ?_ ?_
    · (intro w9 hC; clear hC; go_simp; first | done | (simp; done) | (simp [*]; done) | omega | (simp; omega) | (rw [IntKind.wrap_i64]; omega) | (intro hx; omega) | rfl)
    simp only [Act.put, List.setIfInBounds_toArray, List.set_cons_zero, List.set_cons_succ]
    refine qw_run (v := .int .i64 (k : Int)) (by rfl) ?_ ?_
    · (intro w9 hC; clear hC; go_simp; first | done | (simp; done) | (simp [*]; done) | omega | (simp; omega) | (rw [IntKind.wrap_i64]; omega) | (intro hx; omega) | rfl)
    simp only [Act.put, List.setIfInBounds_toArray, List.set_cons_zero, List.set_cons_succ]
    refine qw_run (v := .int .i64 (4 * (k : Int))) (by rfl) ?_ ?_
    · (intro w9 hC; clear hC; go_simp; first | done | (simp; done) | (simp [*]; done) | omega | (simp; omega) | (rw [IntKind.wrap_i64]; omega) | (intro hx; omega) | rfl)
    simp only [Act.put, List.setIfInBounds_toArray, List.set_cons_zero, List.set_cons_succ]
    refine qw_run (v := .int .i64 (k : Int)) (by rfl) ?_ ?_
    · (intro w9 hC; clear hC; go_simp; first | done | (simp; done) | (simp [*]; done) | omega | (simp; omega) | (rw [IntKind.wrap_i64]; omega) | (intro hx; omega) | rfl)
    simp only [Act.put, List.setIfInBounds_toArray, List.set_cons_zero, List.set_cons_succ]
    refine qw_run (v := .int .i64 (4 * (k : Int))) (by rfl) ?_ ?_
    · (intro w9 hC; clear hC; go_simp; first | done | (simp; done) | (simp [*]; done) | omega | (simp; omega) | (rw [IntKind.wrap_i64]; omega) | (intro hx; omega) | rfl)
    simp only [Act.put, List.setIfInBounds_toArray, List.set_cons_zero, List.set_cons_succ]
    refine qw_run (v := .int .i64 (z : Int)) (by rfl) ?_ ?_
    · (intro w9 hC; clear hC; go_simp; first | done | (simp; done) | (simp [*]; done) | omega | (simp; omega) | (rw [IntKind.wrap_i64]; omega) | (intro hx; omega) | rfl)
    simp only [Act.put, List.setIfInBounds_toArray, List.set_cons_zero, List.set_cons_succ]
    refine qw_run (v := .int .i64 (4 * (z : Int))) (by rfl) ?_ ?_
    · (intro w9 hC; clear hC; go_simp; first | done | (simp; done) | (simp [*]; done) | omega | (simp; omega) | (rw [IntKind.wrap_i64]; omega) | (intro hx; omega) | rfl)
    simp only [Act.put, List.setIfInBounds_toArray, List.set_cons_zero, List.set_cons_succ]
    refine qw_run (v := .int .i64 (4 * (k : Int) + 4 * (z : Int))) (by rfl) ?_ ?_
    · (intro w9 hC; clear hC; go_simp; first | done | (simp; done) | (simp [*]; done) | omega | (simp; omega) | (rw [IntKind.wrap_i64]; omega) | (intro hx; omega) | rfl)
    simp only [Act.put, List.setIfInBounds_toArray, List.set_cons_zero, List.set_cons_succ]
    refine qw_run (v := .slice (some ⟨bo, off + 4 * k, none⟩) (4 * z) (cc - 4 * k)) (by rfl) ?_ ?_
    · (intro w9 hC; clear hC; exact ex14 (HSl.out w9))
    simp only [Act.put, List.setIfInBounds_toArray, List.set_cons_zero, List.set_cons_succ]
    refine qw_run (v := .string (bsA Y)) (by rfl) ?_ ?_
    · (intro w9 hC; have r0 := conv13 (HMid.out w9 hC.2.2.2.1) HYb.out; clear hC; exact ex14 r0)
    simp only [Act.put, List.setIfInBounds_toArray, List.set_cons_zero, List.set_cons_succ]
    refine qw_run (v := .bool true) (by rfl) ?_ ?_
    · (intro w9 hC; clear hC; go_simp; first | done | (simp; done) | (simp [*]; done) | omega | (simp; omega) | (rw [IntKind.wrap_i64]; omega) | (intro hx; omega) | rfl)
    simp only [Act.put, List.setIfInBounds_toArray, List.set_cons_zero, List.set_cons_succ]
    refine qw_run (v := .bool true) (by rfl) ?_ ?_
    · (intro w9 hC; clear hC; go_simp; first | done | (simp; done) | (simp [*]; done) | omega | (simp; omega) | (rw [IntKind.wrap_i64]; omega) | (intro hx; omega) | rfl)
    simp only [Act.put, List.setIfInBounds_toArray, List.set_cons_zero, List.set_cons_succ]
    refine qw_run (v := .bool true) (by rfl) ?_ ?_
    · (intro w9 hC; clear hC; go_simp; first | done | (simp; done) | (simp [*]; done) | omega | (simp; omega) | (rw [IntKind.wrap_i64]; omega) | (intro hx; omega) | rfl)
    simp only [Act.put, List.setIfInBounds_toArray, List.set_cons_zero, List.set_cons_succ]
    refine qw_nil ?_
    intro w9 hC
    have HB9 := hid13 hC.2.2.2.2
    clear hC
    go_wp2
    go_ret
    exact ⟨rfl, HB9.out⟩
  · obtain ⟨rfl, rfl⟩ := HZ0.out hE
    have hE' : (E != 0) = true := by simpa using hE
    obtain ⟨i0', i1', i2'⟩ := HI5.out
    clear HZ0 HZ1 HED hE HO5
    go_wp2
    go_ret
    exact ⟨rfl, HB5.out⟩
end Go.Proofs.Ytnaihocdemcejaa
