/-
  Part 20 of the proof: 1 texts, one behind the other.
-/
import Derived.Test.YtpiicdpipjjenaaGreatDoorPart17
import Derived.Test.YtpiicdpipjjenaaGreatDoorPart7
namespace Go.Proofs.YtpiicdpipjjenaaGreatDoor
open Go.RowKit
set_option linter.unusedSimpArgs false
set_option linter.unusedVariables false
attribute [local go_sem] Oper.semAt_some

section
variable (R : Nat) (F : Int) (s : ByteArray)
set_option maxRecDepth 20000 in
set_option maxHeartbeats 4000000 in
theorem word5_any (ln st : Int) (k0 : Nat) (w : World) (h : RdV w R F s (k0 : Int) ln st) (hk0 : k0 ≤ s.size) (hs : s.size ≤ 1000000000) :
    Calls Tryz.prog 70 #[.pointer (some ⟨R, 0, none⟩)] w fun e w' => e = .returned (.string (s.extract k0 (wdS s k0))) ∧ Below w.heap.size w w' := by
  have HK := hidR (fun k hk => kind5_any R F s (k0 : Int) ln st k w h hk hs)
  obtain ⟨-, -, r2, -, -⟩ := h.cells
  have HC1 : Hid (∀ X, Below w.heap.size w X → X.cell? ⟨R, 0, none⟩ = some (.int .i64 F) ∧ X.cell? ⟨R, 1, none⟩ = some (.string s) ∧ X.cell? ⟨R, 2, none⟩ = some (.int .i64 (k0 : Int)) ∧ X.cell? ⟨R, 3, none⟩ = some (.int .i64 ln) ∧ X.cell? ⟨R, 4, none⟩ = some (.int .i64 st)) := hidR (fun X hb => (h.below hb).cells)
  clear h
  go_enter Tryz.func70, Tryz.ntmps70
  go_wp2_with fail
  refine scope_mid 0 (fun a' W => ∃ (k : Nat) (x4 x5 x6 x7 x8 x9 x10 x11 x12 x13 x14 x15 x16 x17 x18 x19 x20 x21 x22 x23 : Value), a' = { tmps := #[.pointer (some ⟨R, 0, none⟩), undef, .string ⟨#[]⟩, .int .i64 (k : Int), x4, x5, x6, x7, x8, x9, x10, x11, x12, x13, x14, x15, x16, x17, x18, x19, x20, x21, x22, x23], defers := [] } ∧ W = w ∧ Hid (k0 ≤ k ∧ k ≤ s.size ∧ wdS s k = wdS s k0)) (fun a' _ => s.size - (intOf (a'.tmps.getD 3 undef)).toNat) (by rfl) ?first ?pass
  case first =>
    go_wp2
    exact ⟨k0, _, _, _, _, _, _, _, _, _, _, _, _, _, _, _, _, _, _, _, _, rfl, by first | trivial | rfl, hidR ⟨Nat.le_refl _, hk0, rfl⟩⟩
  case pass =>
    clear r2
    rintro a' W ⟨k, x4, x5, x6, x7, x8, x9, x10, x11, x12, x13, x14, x15, x16, x17, x18, x19, x20, x21, x22, x23, rfl, rfl, HI⟩
    obtain ⟨hk1, hk2, hk3⟩ := HI.out
    have KK := HK.out k hk2
    have HG : Hid (kdS s k = 0 → k + 1 ≤ s.size ∧ wdS s (k + 1) = wdS s k0) := hidR (fun q => ⟨by have := kdS_in (s := s) (k := k) (by omega) hk2; omega, by rw [← wdS_go hk2 q]; exact hk3⟩)
    have HH : Hid (¬ kdS s k = 0 → wdS s k0 = k) := hidR (fun q => by rw [← hk3, wdS_here q])
    have wk : IntKind.i64.wrap ((k : Int) + 1) = ((k + 1 : Nat) : Int) := by rw [IntKind.wrap_i64]; push_cast; omega
    have j1 : (k0 : Int) ≤ (k : Int) := by omega
    have j2 : (k : Int) ≤ (s.size : Int) := by omega
    have j3 : (0 : Int) ≤ (k0 : Int) := by omega
    clear hk3
    by_cases hv : kdS s k = 0
    · have hg := HG.out hv
      rw [hv] at KK
      clear HG HH hv
      go_wp2_with fail
      refine KK.mono ?_
      rintro e W' ⟨rfl, rfl⟩
      clear KK HK
      go_wp2
      first | refine wp_goto ?_ | skip
      refine And.intro rfl (And.intro ⟨k + 1, _, _, _, _, _, _, _, _, _, _, _, _, _, _, _, _, _, _, _, _, by first | rfl | (simp only [wk]), rfl, hidR ⟨by omega, hg.1, hg.2⟩⟩ ?_)
      simp [intOf]
      omega
    · have hh := HH.out hv
      have hd : (kdS s k == 0) = false := by simpa using hv
      revert KK hd
      clear HG HH hv
      generalize kdS s k = v
      intro KK hd
      have Hhh := hidR hh
      clear hh
      go_wp2_with fail
      refine KK.mono ?_
      rintro e W' ⟨rfl, rfl⟩
      clear KK HK
      go_wp2_with fail
      refine qw_region (C := fun X => Below W'.heap.size W' X) (by kernel_rfl) (by kernel_rfl) (below_drewN (Below.refl _ _) 1) ?_
      refine qw_run (v := .pointer (some ⟨R, 0, none⟩)) (by rfl) ?_ ?_
      · (intro w1 hC; clear hC; go_simp; first | done | (simp; done) | (simp [*]; done) | omega | (simp; omega) | rfl)
      simp only [Act.put, List.setIfInBounds_toArray, List.set_cons_zero, List.set_cons_succ]
      refine qw_run (v := .pointer (some ⟨R, 0, none⟩)) (by rfl) ?_ ?_
      · (intro w1 hC; clear hC; go_simp; first | done | (simp; done) | (simp [*]; done) | omega | (simp; omega) | rfl)
      simp only [Act.put, List.setIfInBounds_toArray, List.set_cons_zero, List.set_cons_succ]
      refine qw_run (v := .pointer (some ⟨R, 1, none⟩)) (by rfl) ?_ ?_
      · (intro w1 hC; clear hC; go_simp; first | done | (simp; done) | (simp [*]; done) | omega | (simp; omega) | rfl)
      simp only [Act.put, List.setIfInBounds_toArray, List.set_cons_zero, List.set_cons_succ]
      refine qw_run (v := .string s) (by rfl) ?_ ?_
      · (intro w1 hC; have f0 := (HC1.out _ hC).2.1; clear hC; go_simp; first | done | (simp; done) | (simp [*]; done) | omega | (simp; omega) | rfl)
      simp only [Act.put, List.setIfInBounds_toArray, List.set_cons_zero, List.set_cons_succ]
      refine qw_run (v := .pointer (some ⟨R, 0, none⟩)) (by rfl) ?_ ?_
      · (intro w1 hC; clear hC; go_simp; first | done | (simp; done) | (simp [*]; done) | omega | (simp; omega) | rfl)
      simp only [Act.put, List.setIfInBounds_toArray, List.set_cons_zero, List.set_cons_succ]
      refine qw_run (v := .pointer (some ⟨R, 0, none⟩)) (by rfl) ?_ ?_
      · (intro w1 hC; clear hC; go_simp; first | done | (simp; done) | (simp [*]; done) | omega | (simp; omega) | rfl)
      simp only [Act.put, List.setIfInBounds_toArray, List.set_cons_zero, List.set_cons_succ]
      refine qw_run (v := .pointer (some ⟨R, 2, none⟩)) (by rfl) ?_ ?_
      · (intro w1 hC; clear hC; go_simp; first | done | (simp; done) | (simp [*]; done) | omega | (simp; omega) | rfl)
      simp only [Act.put, List.setIfInBounds_toArray, List.set_cons_zero, List.set_cons_succ]
      refine qw_run (v := .int .i64 (k0 : Int)) (by rfl) ?_ ?_
      · (intro w1 hC; have f0 := (HC1.out _ hC).2.2.1; clear hC; go_simp; first | done | (simp; done) | (simp [*]; done) | omega | (simp; omega) | rfl)
      simp only [Act.put, List.setIfInBounds_toArray, List.set_cons_zero, List.set_cons_succ]
      refine qw_run (v := .int .i64 (k : Int)) (by rfl) ?_ ?_
      · (intro w1 hC; clear hC; go_simp; first | done | (simp; done) | (simp [*]; done) | omega | (simp; omega) | rfl)
      simp only [Act.put, List.setIfInBounds_toArray, List.set_cons_zero, List.set_cons_succ]
      refine qw_run (v := .string (s.extract k0 k)) (by rfl) ?_ ?_
      · (intro w1 hC; clear hC; go_simp; first | done | (simp; done) | (simp [*]; done) | omega | (simp; omega) | rfl)
      simp only [Act.put, List.setIfInBounds_toArray, List.set_cons_zero, List.set_cons_succ]
      refine qw_run (v := .string (s.extract k0 k)) (by rfl) ?_ ?_
      · (intro w1 hC; clear hC; go_simp; first | done | (simp; done) | (simp [*]; done) | omega | (simp; omega) | rfl)
      simp only [Act.put, List.setIfInBounds_toArray, List.set_cons_zero, List.set_cons_succ]
      refine qw_nil ?_
      intro w3 hC
      have HB := hidR hC
      clear hC HC1
      go_wp2
      refine jump_ret ?_
      exact bodyPost_ret (v := .string (s.extract k0 k)) (by simp [results, Tryz.results70, go_sem]) rfl ⟨by rw [Hhh.out], HB.out⟩
theorem ixB10_any (t : ByteArray) (w : World) :
    Calls Tryz.prog 74 #[.string t, .int .u8 10] w fun e w' => e = .returned (.int .i64 (Lib.indexByte t.data.toList 10)) ∧ Below w.heap.size w w' := by
  have KI : Calls Tryz.prog 98 #[.string t, .int .u8 10] w fun e w' => e = .returned (.int .i64 (Lib.indexByte t.data.toList 10)) ∧ w' = w := Any.stringslite_IndexByte Tryz.lays217 t 10 w
  go_enter Tryz.func74, Tryz.ntmps74
  go_wp2_with fail
  refine KI.mono ?_
  rintro e w1 ⟨rfl, rfl⟩
  clear KI
  go_wp2
  go_ret
  exact ⟨rfl, Below.refl _ _⟩
set_option maxRecDepth 20000 in
set_option maxHeartbeats 4000000 in
theorem toNext_no (ln st : Int) (k : Nat) (w : World) (h : RdV w R F s (k : Int) ln st) (hk : k ≤ s.size) (hs : s.size ≤ 1000000000) (hn : nlS s k = -1) :
    Calls Tryz.prog 49 #[.pointer (some ⟨R, 0, none⟩)] w fun e w' => e = .returned (.bool false) ∧ Below w.heap.size w w' := by
  have HC1 : Hid (∀ X, Below w.heap.size w X → X.cell? ⟨R, 0, none⟩ = some (.int .i64 F) ∧ X.cell? ⟨R, 1, none⟩ = some (.string s) ∧ X.cell? ⟨R, 2, none⟩ = some (.int .i64 (k : Int)) ∧ X.cell? ⟨R, 3, none⟩ = some (.int .i64 ln) ∧ X.cell? ⟨R, 4, none⟩ = some (.int .i64 st)) := hidR (fun X hb => (h.below hb).cells)
  have KI := fun w => ixB10_any (s.extract k s.size) w
  rw [show Lib.indexByte (s.extract k s.size).data.toList 10 = nlS s k from rfl, hn] at KI
  obtain ⟨z, hz⟩ : ∃ z : Int, z = -1 := ⟨_, rfl⟩
  rw [← hz] at KI
  have hz0 : z < 0 := by omega
  have j2 : (k : Int) ≤ (s.size : Int) := by omega
  have j3 : (0 : Int) ≤ (k : Int) := by omega
  clear h hn hz
  go_enter Tryz.func49, Tryz.ntmps49
  go_wp2_with fail
  refine qw_region (C := fun X => Below w.heap.size w X) (by kernel_rfl) (by kernel_rfl) (below_drewN (Below.refl _ _) 1) ?_
  refine qw_run (v := .pointer (some ⟨R, 0, none⟩)) (by rfl) ?_ ?_
  · (intro w1 hC; clear hC; go_simp; first | done | (simp; done) | (simp [*]; done) | omega | (simp; omega) | rfl)
  simp only [Act.put, List.setIfInBounds_toArray, List.set_cons_zero, List.set_cons_succ]
  refine qw_run (v := .pointer (some ⟨R, 0, none⟩)) (by rfl) ?_ ?_
  · (intro w1 hC; clear hC; go_simp; first | done | (simp; done) | (simp [*]; done) | omega | (simp; omega) | rfl)
  simp only [Act.put, List.setIfInBounds_toArray, List.set_cons_zero, List.set_cons_succ]
  refine qw_run (v := .pointer (some ⟨R, 1, none⟩)) (by rfl) ?_ ?_
  · (intro w1 hC; clear hC; go_simp; first | done | (simp; done) | (simp [*]; done) | omega | (simp; omega) | rfl)
  simp only [Act.put, List.setIfInBounds_toArray, List.set_cons_zero, List.set_cons_succ]
  refine qw_run (v := .string s) (by rfl) ?_ ?_
  · (intro w1 hC; have f0 := (HC1.out _ hC).2.1; clear hC; go_simp; first | done | (simp; done) | (simp [*]; done) | omega | (simp; omega) | rfl)
  simp only [Act.put, List.setIfInBounds_toArray, List.set_cons_zero, List.set_cons_succ]
  refine qw_run (v := .pointer (some ⟨R, 0, none⟩)) (by rfl) ?_ ?_
  · (intro w1 hC; clear hC; go_simp; first | done | (simp; done) | (simp [*]; done) | omega | (simp; omega) | rfl)
  simp only [Act.put, List.setIfInBounds_toArray, List.set_cons_zero, List.set_cons_succ]
  refine qw_run (v := .pointer (some ⟨R, 0, none⟩)) (by rfl) ?_ ?_
  · (intro w1 hC; clear hC; go_simp; first | done | (simp; done) | (simp [*]; done) | omega | (simp; omega) | rfl)
  simp only [Act.put, List.setIfInBounds_toArray, List.set_cons_zero, List.set_cons_succ]
  refine qw_run (v := .pointer (some ⟨R, 2, none⟩)) (by rfl) ?_ ?_
  · (intro w1 hC; clear hC; go_simp; first | done | (simp; done) | (simp [*]; done) | omega | (simp; omega) | rfl)
  simp only [Act.put, List.setIfInBounds_toArray, List.set_cons_zero, List.set_cons_succ]
  refine qw_run (v := .int .i64 (k : Int)) (by rfl) ?_ ?_
  · (intro w1 hC; have f0 := (HC1.out _ hC).2.2.1; clear hC; go_simp; first | done | (simp; done) | (simp [*]; done) | omega | (simp; omega) | rfl)
  simp only [Act.put, List.setIfInBounds_toArray, List.set_cons_zero, List.set_cons_succ]
  refine qw_run (v := .string (s.extract k s.size)) (by rfl) ?_ ?_
  · (intro w1 hC; clear hC; go_simp; first | done | (simp; done) | (simp [*]; done) | omega | (simp; omega) | rfl)
  simp only [Act.put, List.setIfInBounds_toArray, List.set_cons_zero, List.set_cons_succ]
  refine qw_call (v := .int .i64 z) (f := 74) (args := #[.string (s.extract k s.size), .int .u8 10]) (by rfl) ?_ ?_ ?_
  · (intro w1 hC; clear hC; go_simp)
  · exact fun w1 hC => (KI w1).mono fun e w' ⟨he, hb⟩ => ⟨he, keepb hb hC⟩
  simp only [Act.put, List.setIfInBounds_toArray, List.set_cons_zero, List.set_cons_succ]
  refine qw_run (v := .int .i64 z) (by rfl) ?_ ?_
  · (intro w1 hC; clear hC; go_simp; first | done | (simp; done) | (simp [*]; done) | omega | (simp; omega) | rfl)
  simp only [Act.put, List.setIfInBounds_toArray, List.set_cons_zero, List.set_cons_succ]
  refine qw_nil ?_
  intro w3 hC
  have HB := hidR hC
  clear hC HC1 KI
  go_wp2
  exact bodyPost_ret (v := .bool false) (by simp [results, Tryz.results49, go_sem]) rfl ⟨rfl, HB.out⟩
set_option maxRecDepth 20000 in
set_option maxHeartbeats 4000000 in
theorem toNext_yes (ln st : Int) (k i : Nat) (w : World) (h : RdV w R F s (k : Int) ln st) (hk : k ≤ s.size) (hs : s.size ≤ 1000000000) (hn : nlS s k = (i : Int)) (hl0 : 0 ≤ ln) (hl1 : ln ≤ 2000000000) :
    Calls Tryz.prog 49 #[.pointer (some ⟨R, 0, none⟩)] w fun e w' => e = .returned (.bool true) ∧ RdV w' R F s ((k + i + 1 : Nat) : Int) (ln + 1) ((k + i + 1 : Nat) : Int) ∧ Bo R w w' := by
  have HC1 : Hid (∀ X, Below w.heap.size w X → X.cell? ⟨R, 0, none⟩ = some (.int .i64 F) ∧ X.cell? ⟨R, 1, none⟩ = some (.string s) ∧ X.cell? ⟨R, 2, none⟩ = some (.int .i64 (k : Int)) ∧ X.cell? ⟨R, 3, none⟩ = some (.int .i64 ln) ∧ X.cell? ⟨R, 4, none⟩ = some (.int .i64 st)) := hidR (fun X hb => (h.below hb).cells)
  have hbd := nlS_bd s k hk
  have KI := fun w => ixB10_any (s.extract k s.size) w
  rw [show Lib.indexByte (s.extract k s.size).data.toList 10 = nlS s k from rfl, hn] at KI
  obtain ⟨z, hz⟩ : ∃ z : Int, z = (i : Int) := ⟨_, rfl⟩
  rw [← hz] at KI
  have hz0 : ¬ z < 0 := by omega
  have hz1 : z + 1 ≤ 1000000001 := by omega
  have wz : IntKind.i64.wrap (z + 1) = z + 1 := by rw [IntKind.wrap_i64]; omega
  have wk : IntKind.i64.wrap ((k : Int) + (z + 1)) = ((k + i + 1 : Nat) : Int) := by rw [IntKind.wrap_i64]; push_cast; omega
  have wl : IntKind.i64.wrap (ln + 1) = ln + 1 := by rw [IntKind.wrap_i64]; omega
  have j2 : (k : Int) ≤ (s.size : Int) := by omega
  have j3 : (0 : Int) ≤ (k : Int) := by omega
  have HR := hidR h
  obtain ⟨n, hnn⟩ : ∃ n : Int, n = ((k + i + 1 : Nat) : Int) := ⟨_, rfl⟩
  rw [← hnn] at wk ⊢
  clear h hn hz hbd hnn
  go_enter Tryz.func49, Tryz.ntmps49
  go_wp2_with fail
  refine qw_region (C := fun X => Below w.heap.size w X) (by kernel_rfl) (by kernel_rfl) (below_drewN (Below.refl _ _) 1) ?_
  refine qw_run (v := .pointer (some ⟨R, 0, none⟩)) (by rfl) ?_ ?_
  · (intro w1 hC; clear hC; go_simp; first | done | (simp; done) | (simp [*]; done) | omega | (simp; omega) | rfl)
  simp only [Act.put, List.setIfInBounds_toArray, List.set_cons_zero, List.set_cons_succ]
  refine qw_run (v := .pointer (some ⟨R, 0, none⟩)) (by rfl) ?_ ?_
  · (intro w1 hC; clear hC; go_simp; first | done | (simp; done) | (simp [*]; done) | omega | (simp; omega) | rfl)
  simp only [Act.put, List.setIfInBounds_toArray, List.set_cons_zero, List.set_cons_succ]
  refine qw_run (v := .pointer (some ⟨R, 1, none⟩)) (by rfl) ?_ ?_
  · (intro w1 hC; clear hC; go_simp; first | done | (simp; done) | (simp [*]; done) | omega | (simp; omega) | rfl)
  simp only [Act.put, List.setIfInBounds_toArray, List.set_cons_zero, List.set_cons_succ]
  refine qw_run (v := .string s) (by rfl) ?_ ?_
  · (intro w1 hC; have f0 := (HC1.out _ hC).2.1; clear hC; go_simp; first | done | (simp; done) | (simp [*]; done) | omega | (simp; omega) | rfl)
  simp only [Act.put, List.setIfInBounds_toArray, List.set_cons_zero, List.set_cons_succ]
  refine qw_run (v := .pointer (some ⟨R, 0, none⟩)) (by rfl) ?_ ?_
  · (intro w1 hC; clear hC; go_simp; first | done | (simp; done) | (simp [*]; done) | omega | (simp; omega) | rfl)
  simp only [Act.put, List.setIfInBounds_toArray, List.set_cons_zero, List.set_cons_succ]
  refine qw_run (v := .pointer (some ⟨R, 0, none⟩)) (by rfl) ?_ ?_
  · (intro w1 hC; clear hC; go_simp; first | done | (simp; done) | (simp [*]; done) | omega | (simp; omega) | rfl)
  simp only [Act.put, List.setIfInBounds_toArray, List.set_cons_zero, List.set_cons_succ]
  refine qw_run (v := .pointer (some ⟨R, 2, none⟩)) (by rfl) ?_ ?_
  · (intro w1 hC; clear hC; go_simp; first | done | (simp; done) | (simp [*]; done) | omega | (simp; omega) | rfl)
  simp only [Act.put, List.setIfInBounds_toArray, List.set_cons_zero, List.set_cons_succ]
  refine qw_run (v := .int .i64 (k : Int)) (by rfl) ?_ ?_
  · (intro w1 hC; have f0 := (HC1.out _ hC).2.2.1; clear hC; go_simp; first | done | (simp; done) | (simp [*]; done) | omega | (simp; omega) | rfl)
  simp only [Act.put, List.setIfInBounds_toArray, List.set_cons_zero, List.set_cons_succ]
  refine qw_run (v := .string (s.extract k s.size)) (by rfl) ?_ ?_
  · (intro w1 hC; clear hC; go_simp; first | done | (simp; done) | (simp [*]; done) | omega | (simp; omega) | rfl)
  simp only [Act.put, List.setIfInBounds_toArray, List.set_cons_zero, List.set_cons_succ]
  refine qw_call (v := .int .i64 z) (f := 74) (args := #[.string (s.extract k s.size), .int .u8 10]) (by rfl) ?_ ?_ ?_
  · (intro w1 hC; clear hC; go_simp)
  · exact fun w1 hC => (KI w1).mono fun e w' ⟨he, hb⟩ => ⟨he, keepb hb hC⟩
  simp only [Act.put, List.setIfInBounds_toArray, List.set_cons_zero, List.set_cons_succ]
  refine qw_run (v := .int .i64 z) (by rfl) ?_ ?_
  · (intro w1 hC; clear hC; go_simp; first | done | (simp; done) | (simp [*]; done) | omega | (simp; omega) | rfl)
  simp only [Act.put, List.setIfInBounds_toArray, List.set_cons_zero, List.set_cons_succ]
  refine qw_nil ?_
  intro w3 hC
  have hR := HR.out.below hC
  have HF := hidR (⟨((hR.setA n).setL (ln + 1)).setS n, Bo.set (Bo.set (Bo.set (Bt.ofB hC) 2 (.int .i64 n)) 3 (.int .i64 (ln + 1))) 4 (.int .i64 n)⟩ : RdV (((w3.setCell ⟨R, 2, none⟩ (.int .i64 n)).setCell ⟨R, 3, none⟩ (.int .i64 (ln + 1))).setCell ⟨R, 4, none⟩ (.int .i64 n)) R F s n (ln + 1) n ∧ Bo R w (((w3.setCell ⟨R, 2, none⟩ (.int .i64 n)).setCell ⟨R, 3, none⟩ (.int .i64 (ln + 1))).setCell ⟨R, 4, none⟩ (.int .i64 n)))
  obtain ⟨c0, c1, c2, c3, c4⟩ := hR.cells
  have g2 := hR.free 2
  have g3 := hR.free 3
  have g4 := hR.free 4
  clear hC HC1 KI hR HR
  go_wp2
  exact bodyPost_ret (v := .bool true) (by simp [results, Tryz.results49, go_sem]) rfl ⟨rfl, HF.out⟩
set_option maxRecDepth 20000 in
set_option maxHeartbeats 4000000 in
theorem fault5_any (e a ln st : Int) (w : World) (h : RdV w R F s a ln st) (h1 : 0 ≤ st) (h2 : st ≤ 2000000000) (h3 : 0 ≤ a) (h4 : a ≤ 2000000000) :
    Calls Tryz.prog 72 #[.pointer (some ⟨R, 0, none⟩), .int .i64 e] w fun r w' => r = .returned (.agg #[.int .i64 e, .int .i64 ln, .int .i64 (a - st + 1)]) ∧ Below w.heap.size w w' := by
  have q0 := bl1 w (.cells #[.int .i64 0, .int .i64 0, .int .i64 0] 37)
  have HB0 := hidR q0
  have HR := hidR (h.below q0)
  have HZ : Hid ((w.alloc (.cells #[.int .i64 0, .int .i64 0, .int .i64 0] 37)).heap[w.heap.size]? = some (.cells #[.int .i64 0, .int .i64 0, .int .i64 0] 37)) := hidR Array.getElem?_push_size
  have w1 : IntKind.i64.wrap (a - st) = a - st := by rw [IntKind.wrap_i64]; omega
  have w2 : IntKind.i64.wrap (a - st + 1) = a - st + 1 := by rw [IntKind.wrap_i64]; omega
  clear q0 h h1 h2 h3 h4
  go_enter Tryz.func72, Tryz.ntmps72
  go_wp2_with fail
  revert HB0 HR HZ
  generalize w.alloc (.cells #[.int .i64 0, .int .i64 0, .int .i64 0] 37) = W0
  intro HB0 HR HZ
  have HC0 : Hid (Below W0.heap.size W0 W0.drew ∧ W0.drew.heap[w.heap.size]? = some (.cells #[.int .i64 0, .int .i64 0, .int .i64 0] 37)) := hidR ⟨below_drewN (Below.refl _ _) 1, HZ.out⟩
  have HC1 : Hid (∀ X, Below W0.heap.size W0 X → X.cell? ⟨R, 0, none⟩ = some (.int .i64 F) ∧ X.cell? ⟨R, 1, none⟩ = some (.string s) ∧ X.cell? ⟨R, 2, none⟩ = some (.int .i64 a) ∧ X.cell? ⟨R, 3, none⟩ = some (.int .i64 ln) ∧ X.cell? ⟨R, 4, none⟩ = some (.int .i64 st)) := hidR (fun X hb => (HR.out.below hb).cells)
  clear HR HZ
  refine qp_region2 16 (qpOk 16 16 (by decide) (fun N => by kernel_rfl) (by kernel_rfl) (by kernel_rfl) (by kernel_rfl) (by kernel_rfl)) (C := fun X => Below W0.heap.size W0 X ∧ X.heap[w.heap.size]? = some (.cells #[.int .i64 0, .int .i64 0, .int .i64 0] 37)) [some 5, some 6, some 7, some 8, some 9, some 10, some 11, some 12, some 13, some 14, some 15, some 16, some 17, some 18, some 19, some 20] [.int .i64 e, .pointer (some ⟨R, 0, none⟩), .pointer (some ⟨R, 0, none⟩), .pointer (some ⟨R, 3, none⟩), .int .i64 ln, .pointer (some ⟨R, 0, none⟩), .pointer (some ⟨R, 0, none⟩), .pointer (some ⟨R, 2, none⟩), .int .i64 a, .pointer (some ⟨R, 0, none⟩), .pointer (some ⟨R, 0, none⟩), .pointer (some ⟨R, 4, none⟩), .int .i64 st, .int .i64 (a - st), .int .i64 (a - st + 1), .agg #[.int .i64 e, .int .i64 ln, .int .i64 (a - st + 1)]] (by kernel_rfl) HC0.out ?walk ?fin
  case walk =>
    dsimp only [List.take]
    refine q_run (v := .int .i64 e) (by rfl) ?_ ?_
    · (intro w1 hC; clear hC; go_simp; first | done | (simp; done) | (simp [*]; done) | omega | (simp; omega) | rfl)
    simp only [Act.put, List.setIfInBounds_toArray, List.set_cons_zero, List.set_cons_succ]
    refine q_run (v := .pointer (some ⟨R, 0, none⟩)) (by rfl) ?_ ?_
    · (intro w1 hC; clear hC; go_simp; first | done | (simp; done) | (simp [*]; done) | omega | (simp; omega) | rfl)
    simp only [Act.put, List.setIfInBounds_toArray, List.set_cons_zero, List.set_cons_succ]
    refine q_run (v := .pointer (some ⟨R, 0, none⟩)) (by rfl) ?_ ?_
    · (intro w1 hC; clear hC; go_simp; first | done | (simp; done) | (simp [*]; done) | omega | (simp; omega) | rfl)
    simp only [Act.put, List.setIfInBounds_toArray, List.set_cons_zero, List.set_cons_succ]
    refine q_run (v := .pointer (some ⟨R, 3, none⟩)) (by rfl) ?_ ?_
    · (intro w1 hC; clear hC; go_simp; first | done | (simp; done) | (simp [*]; done) | omega | (simp; omega) | rfl)
    simp only [Act.put, List.setIfInBounds_toArray, List.set_cons_zero, List.set_cons_succ]
    refine q_run (v := .int .i64 ln) (by rfl) ?_ ?_
    · (intro w1 hC; have f0 := (HC1.out _ hC.1).2.2.2.1; clear hC; go_simp; first | done | (simp; done) | (simp [*]; done) | omega | (simp; omega) | rfl)
    simp only [Act.put, List.setIfInBounds_toArray, List.set_cons_zero, List.set_cons_succ]
    refine q_run (v := .pointer (some ⟨R, 0, none⟩)) (by rfl) ?_ ?_
    · (intro w1 hC; clear hC; go_simp; first | done | (simp; done) | (simp [*]; done) | omega | (simp; omega) | rfl)
    simp only [Act.put, List.setIfInBounds_toArray, List.set_cons_zero, List.set_cons_succ]
    refine q_run (v := .pointer (some ⟨R, 0, none⟩)) (by rfl) ?_ ?_
    · (intro w1 hC; clear hC; go_simp; first | done | (simp; done) | (simp [*]; done) | omega | (simp; omega) | rfl)
    simp only [Act.put, List.setIfInBounds_toArray, List.set_cons_zero, List.set_cons_succ]
    refine q_run (v := .pointer (some ⟨R, 2, none⟩)) (by rfl) ?_ ?_
    · (intro w1 hC; clear hC; go_simp; first | done | (simp; done) | (simp [*]; done) | omega | (simp; omega) | rfl)
    simp only [Act.put, List.setIfInBounds_toArray, List.set_cons_zero, List.set_cons_succ]
    refine q_run (v := .int .i64 a) (by rfl) ?_ ?_
    · (intro w1 hC; have f0 := (HC1.out _ hC.1).2.2.1; clear hC; go_simp; first | done | (simp; done) | (simp [*]; done) | omega | (simp; omega) | rfl)
    simp only [Act.put, List.setIfInBounds_toArray, List.set_cons_zero, List.set_cons_succ]
    refine q_run (v := .pointer (some ⟨R, 0, none⟩)) (by rfl) ?_ ?_
    · (intro w1 hC; clear hC; go_simp; first | done | (simp; done) | (simp [*]; done) | omega | (simp; omega) | rfl)
    simp only [Act.put, List.setIfInBounds_toArray, List.set_cons_zero, List.set_cons_succ]
    refine q_run (v := .pointer (some ⟨R, 0, none⟩)) (by rfl) ?_ ?_
    · (intro w1 hC; clear hC; go_simp; first | done | (simp; done) | (simp [*]; done) | omega | (simp; omega) | rfl)
    simp only [Act.put, List.setIfInBounds_toArray, List.set_cons_zero, List.set_cons_succ]
    refine q_run (v := .pointer (some ⟨R, 4, none⟩)) (by rfl) ?_ ?_
    · (intro w1 hC; clear hC; go_simp; first | done | (simp; done) | (simp [*]; done) | omega | (simp; omega) | rfl)
    simp only [Act.put, List.setIfInBounds_toArray, List.set_cons_zero, List.set_cons_succ]
    refine q_run (v := .int .i64 st) (by rfl) ?_ ?_
    · (intro w1 hC; have f0 := (HC1.out _ hC.1).2.2.2.2; clear hC; go_simp; first | done | (simp; done) | (simp [*]; done) | omega | (simp; omega) | rfl)
    simp only [Act.put, List.setIfInBounds_toArray, List.set_cons_zero, List.set_cons_succ]
    refine q_run (v := .int .i64 (a - st)) (by rfl) ?_ ?_
    · (intro w1 hC; clear hC; go_simp; first | done | (simp; done) | (simp [*]; done) | omega | (simp; omega) | rfl)
    simp only [Act.put, List.setIfInBounds_toArray, List.set_cons_zero, List.set_cons_succ]
    refine q_run (v := .int .i64 (a - st + 1)) (by rfl) ?_ ?_
    · (intro w1 hC; clear hC; go_simp; first | done | (simp; done) | (simp [*]; done) | omega | (simp; omega) | rfl)
    simp only [Act.put, List.setIfInBounds_toArray, List.set_cons_zero, List.set_cons_succ]
    refine q_run (v := .agg #[.int .i64 e, .int .i64 ln, .int .i64 (a - st + 1)]) (by rfl) ?_ ?_
    · (intro w1 hC; clear hC; go_simp; first | done | (simp; done) | (simp [*]; done) | omega | (simp; omega) | rfl)
    simp only [Act.put, List.setIfInBounds_toArray, List.set_cons_zero, List.set_cons_succ]
    refine wpQuiet_nil ?_
    simp only [putAll, Act.put, List.setIfInBounds_toArray, List.set_cons_zero, List.set_cons_succ]
  case fin =>
    intro W hC
    simp only [putAll, Act.put, List.setIfInBounds_toArray, List.set_cons_zero, List.set_cons_succ]
    dsimp only [List.drop]
    have hz := hC.2
    have c0 := at_blk hz 0 (.int .i64 0) rfl
    have c1 := at_blk hz 1 (.int .i64 0) rfl
    have c2 := at_blk hz 2 (.int .i64 0) rfl
    have g0 := fr_blk5 (j := 0) hz
    have g1 := fr_blk5 (j := 1) hz
    have g2 := fr_blk5 (j := 2) hz
    have HB := hidR ((((keepb hC.1 HB0.out).setCell (p := ⟨w.heap.size, 0, none⟩) (Nat.le_refl _) (.int .i64 e)).setCell (p := ⟨w.heap.size, 1, none⟩) (Nat.le_refl _) (.int .i64 ln)).setCell (p := ⟨w.heap.size, 2, none⟩) (Nat.le_refl _) (.int .i64 (a - st + 1)))
    clear hC hz
    go_wp2
    exact bodyPost_ret (v := .agg #[.int .i64 e, .int .i64 ln, .int .i64 (a - st + 1)]) (by simp [results, Tryz.results72, go_sem, c0, c1, c2]) rfl ⟨rfl, HB.out⟩
end
set_option maxHeartbeats 4000000 in
theorem nextHop_any (t : ByteArray) (w : World) (hs : t.size ≤ 1000000000) :
    Calls Tryz.prog 73 #[.string t] w fun e w' => e = .returned (.tuple #[.int .i64 ((nhO t).getD 0), .bool (nhO t).isSome]) ∧ w' = w := by
  have KH := fun n w => isHop_any n w
  go_enter Tryz.func73, Tryz.ntmps73
  go_wp2_with fail
  go_loopw [4, 8] (fun a b wr => ∃ (k : Nat) (n : Int), a = .int .i64 n ∧ b = .int .i64 k ∧ k ≤ t.size ∧ 0 ≤ n ∧ n ≤ 65535 ∧ Hid (nhR t (t.size - k) k n = nhR t t.size 0 0) ∧ wr = w) (fun _ b _ => t.size - (intOf b).toNat)
  case atStart => exact ⟨0, 0, rfl, rfl, by omega, by omega, by omega, rfl, rfl⟩
  case round =>
    obtain ⟨k, n, rfl, rfl, hk, g0, g1, HR, rfl⟩ := hrel
    by_cases hlt : k < t.size
    · have hbt := byteAt_in t k hlt
      have bd := byteAt_bd t k
      have HU : Hid (t.size - k = (t.size - (k + 1)) + 1) := by show _ = _; omega
      have HS : Hid (∀ f, nhR t (f + 1) k n = if byteAt t k < 48 ∨ 57 < byteAt t k then none else if hopB (10 * n + (byteAt t k - 48)) = true then nhR t f (k + 1) (10 * n + (byteAt t k - 48)) else none) := fun f => rfl
      generalize byteAt t k = c at *
      have hk2 : (k : Int) < (t.size : Int) := by omega
      by_cases d0 : c < 48
      · have HF : Hid ((nhO t).getD 0 = 0 ∧ (nhO t).isSome = false) := by
          show _ ∧ _
          unfold nhO; rw [← HR.out, HU.out, HS.out, if_pos (Or.inl d0)]; exact ⟨rfl, rfl⟩
        clear HS HU HR KH
        go_wp2
        go_ret2
        exact ⟨by rw [HF.out.1, HF.out.2]; rfl, rfl⟩
      by_cases d1 : 57 < c
      · have HF : Hid ((nhO t).getD 0 = 0 ∧ (nhO t).isSome = false) := by
          show _ ∧ _
          unfold nhO; rw [← HR.out, HU.out, HS.out, if_pos (Or.inr d1)]; exact ⟨rfl, rfl⟩
        clear HS HU HR KH
        go_wp2
        go_ret2
        exact ⟨by rw [HF.out.1, HF.out.2]; rfl, rfl⟩
      · have u1 : IntKind.u8.wrap (c - 48) = c - 48 := by simp [IntKind.wrap, IntKind.bits, IntKind.signed]; omega
        have u2 : IntKind.i64.wrap (10 * n) = 10 * n := by rw [IntKind.wrap_i64]; omega
        have u3 : IntKind.i64.wrap (10 * n + (c - 48)) = 10 * n + (c - 48) := by rw [IntKind.wrap_i64]; omega
        have u4 : IntKind.i64.wrap (c - 48) = c - 48 := by rw [IntKind.wrap_i64]; omega
        have wk : IntKind.i64.wrap ((k : Int) + 1) = ((k + 1 : Nat) : Int) := by rw [IntKind.wrap_i64]; push_cast; omega
        have KH2 := KH (10 * n + (c - 48)) wr
        cases hb : hopB (10 * n + (c - 48)) with
        | false =>
          have HF : Hid ((nhO t).getD 0 = 0 ∧ (nhO t).isSome = false) := by
            show _ ∧ _
            unfold nhO; rw [← HR.out, HU.out, HS.out, if_neg (by omega), if_neg (by rw [hb]; simp)]; exact ⟨rfl, rfl⟩
          rw [hb] at KH2
          clear HS HU HR KH hb
          go_wp2_with fail
          refine KH2.mono ?_
          rintro e w1 ⟨rfl, rfl⟩
          clear KH2
          go_wp2
          go_ret2
          exact ⟨by rw [HF.out.1, HF.out.2]; rfl, rfl⟩
        | true =>
          have HF : Hid (nhR t (t.size - (k + 1)) (k + 1) (10 * n + (c - 48)) = nhR t t.size 0 0) := by
            show _ = _
            rw [← HR.out, HU.out, HS.out, if_neg (by omega), if_pos hb]
          have hn : 10 * n + (c - 48) ≤ 65535 ∧ 0 ≤ 10 * n + (c - 48) := by
            unfold hopB at hb
            rw [Bool.and_eq_true, decide_eq_true_eq, decide_eq_true_eq] at hb
            omega
          rw [hb] at KH2
          obtain ⟨hn1, hn2⟩ := hn
          clear HS HU HR KH hb
          go_wp2_with fail
          refine KH2.mono ?_
          rintro e w1 ⟨rfl, rfl⟩
          clear KH2
          go_wp2
          go_roundw
          case rel => exact ⟨k + 1, 10 * n + (c - 48), rfl, by first | rfl | (simp only [wk]), by omega, hn2, hn1, HF, trivial⟩
          case measure => simp [intOf]; omega
    · have HF : Hid ((nhO t).getD 0 = n ∧ (nhO t).isSome = true) := by
        show _ ∧ _
        have e : t.size - k = 0 := by omega
        unfold nhO; rw [← HR.out, e]; exact ⟨rfl, rfl⟩
      have hk2 : ¬ (k : Int) < (t.size : Int) := by omega
      clear HR KH
      go_wp2
      go_ret2
      exact ⟨by rw [HF.out.1, HF.out.2]; rfl, rfl⟩
end Go.Proofs.YtpiicdpipjjenaaGreatDoor
