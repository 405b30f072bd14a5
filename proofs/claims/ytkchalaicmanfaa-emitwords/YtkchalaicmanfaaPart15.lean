/-
  Part 15 of the proof: 4 texts, one behind the other.
-/
import Derived.Test.YtkchalaicmanfaaPart13
import Derived.Test.YtkchalaicmanfaaPart14
import Derived.Deep.RegionHeld3
import Derived.Test.YtkchalaicmanfaaPart10
import Derived.Test.YtkchalaicmanfaaPart4
namespace Go.Proofs.Ytkchalaicmanfaa
open Go.RowKit
set_option linter.unusedSimpArgs false
set_option linter.unusedVariables false
attribute [local go_sem] Oper.semAt_some

structure RsAt (b : Int) (l : List Rn) (j : Nat) (r : Rn) : Prop where
  z : j = 0 → r.f = 0#128
  w : ¬ ((leadN r.f : Nat) : Int) < 128 - b
  p : ∀ p, 0 < j → l[j - 1]? = some p → cmpZ p.f r.f < 0 ∧ smR p r = false
def RsOk (b : Int) (l : List Rn) : Prop := l ≠ [] ∧ ∀ j r, l[j]? = some r → RsAt b l j r
theorem adj_of : ∀ (l : List Rn), (∀ (j : Nat) (p r : Rn), l[j]? = some p → l[j + 1]? = some r → cmpZ p.f r.f < 0 ∧ smR p r = false) → adjG l = true
  | [], _ => rfl
  | [a], _ => rfl
  | a :: b :: t, h => by
    have h0 := h 0 a b rfl rfl
    unfold adjG
    rw [adj_of (b :: t) (fun j p r h1 h2 => h (j + 1) p r h1 h2)]
    simp [h0.1, h0.2]
theorem of_adj : ∀ (l : List Rn), adjG l = true → ∀ (j : Nat) (p r : Rn), l[j]? = some p → l[j + 1]? = some r → cmpZ p.f r.f < 0 ∧ smR p r = false
  | [], _, j, p, r, h1, _ => by simp at h1
  | [a], _, j, p, r, h1, h2 => by simp at h2
  | a :: b :: t, h, j, p, r, h1, h2 => by
    unfold adjG at h
    simp at h
    cases j with
    | zero =>
      simp at h1 h2
      subst h1 h2
      exact ⟨h.1.1, h.1.2⟩
    | succ j => exact of_adj (b :: t) h.2 j p r (by simpa using h1) (by simpa using h2)
theorem rs_io {b : Int} {l : List Rn} (h0 : 0 ≤ b) (h1 : b ≤ 128) : RsOk b l ↔ ioB ⟨b, l⟩ = true := by
  constructor
  · rintro ⟨hne, h⟩
    have hp := List.length_pos_iff.mpr hne
    rw [io_one b l hne]
    have a1 := (h 0 _ (List.getElem?_eq_getElem hp)).z rfl
    have a2 := (h (l.length - 1) _ (List.getElem?_eq_getElem (by omega))).w
    rw [lead_wide _ _ h0 h1] at a2
    have a3 := adj_of l (fun j p r q1 q2 => (h (j + 1) r q2).p p (by omega) (by simpa using q1))
    simp only [Bool.and_eq_true, beq_iff_eq]
    exact ⟨a1, a3, by simpa using a2⟩
  · intro h
    have io := io_ok h
    refine ⟨io.ne, fun j r hj => ⟨fun e => ?_, ?_, fun p hj0 hp => ?_⟩⟩
    · subst e; exact io.z r hj
    · rw [lead_wide _ _ h0 h1]
      have := io.lt r (List.mem_of_getElem? hj)
      simp only [Decidable.not_not]
      apply BitVec.eq_of_toNat_eq
      rw [BitVec.toNat_ushiftRight, Nat.shiftRight_eq_div_pow]
      exact Nat.div_eq_of_lt this
    · rw [io_one b l io.ne] at h
      simp only [Bool.and_eq_true] at h
      exact of_adj l h.2.1 (j - 1) p r hp (by rw [Nat.sub_add_cancel hj0]; exact hj)
set_option maxRecDepth 100000 in
set_option maxHeartbeats 16000000 in
theorem rruns_any (b : Int) (v : Value) (l : List Rn) (w : World) (hv : RwN w v l) (hl : l.length ≤ 1000000) (h0 : 0 ≤ b) (h1 : b ≤ 128) :
    Calls Try.prog 31 #[.agg #[.int .i64 b, v]] w fun e w' => e = .returned (.bool (ioB ⟨b, l⟩)) ∧ Below w.heap.size w w' := by
  have HT := hid13 (rs_io (l := l) h0 h1)
  generalize ioB ⟨b, l⟩ = t at *
  obtain ⟨ao, c, rfl, hc, hrow⟩ := hv
  have HC := hid13 hrow
  have HD := hid13 (atd_new w b (.slice ao l.length c) 24)
  have HB := hid13 (bl1 w (.cells #[.int .i64 b, .slice ao l.length c] 24))
  have mb : IntKind.i64.wrap (128 - b) = 128 - b := by rw [IntKind.wrap_i64]; omega
  clear hrow
  go_enter Try.func31, Try.ntmps31
  go_wp2_with fail
  obtain ⟨W0, hW0⟩ : ∃ W0, W0 = w.alloc (.cells #[.int .i64 b, .slice ao l.length c] 24) := ⟨_, rfl⟩
  rw [← hW0] at HD HB ⊢
  clear hW0
  go_loopg [3] l.length (fun g kv wr => ∃ k : Nat, k + g = l.length ∧ kv = .int .i64 (k : Int) ∧ Hid (∀ j r, j < k → l[j]? = some r → RsAt b l j r) ∧ Hid (AtD wr w.heap.size b (.slice ao l.length c)) ∧ Hid (Below w.heap.size w wr))
  case atStart => exact ⟨0, by omega, rfl, (fun j r h => by omega), HD, HB⟩
  case round =>
    clear HD HB
    obtain ⟨k, hk, rfl, HR, HD, HB⟩ := hrel
    obtain ⟨a0, a1⟩ := HD.out
    by_cases hlt : (k : Int) < (l.length : Int)
    · have hks : k < l.length := by omega
      obtain ⟨rb, off, rfl, hcell⟩ := HC.out.resolve_left (by rintro rfl; simp at hks)
      obtain ⟨r, hr⟩ : ∃ r, l[k]? = some r := ⟨_, List.getElem?_eq_getElem hks⟩
      obtain ⟨r0, r1, r2, r3⟩ := hcell k r hr
      have r0 := keepc HB.out r0
      have r1 := keepc HB.out r1
      have r2 := keepc HB.out r2
      have r3 := keepc HB.out r3
      have q1 := bl1 wr (.cells #[.int .u64 (hI r.f), .int .u64 (lI r.f), .bool r.k, .int .i64 r.n] 64)
      obtain ⟨n0, n1, n2, n3⟩ := rnat_new wr r 64
      have HD1 := hid13 (HD.out.below q1)
      have HB1 := hid13 (keepb q1 HB.out)
      have HK : Hid (k + gk = l.length ∧ k < l.length) := ⟨hk, hks⟩
      clear hk
      have HF : Hid (¬ RsAt b l k r → t = false) := fun h => by
        cases ht : t with
        | false => rfl
        | true => exact absurd ((HT.out.mpr ht).2 k r hr) h
      have E0 := fun w => eqWz r.f w
      have KL := fun w => rlead_any r.f w
      obtain ⟨ld, hld⟩ : ∃ ld, ld = ((leadN r.f : Nat) : Int) := ⟨_, rfl⟩
      rw [← hld] at KL
      have HLd := hid13 hld
      have HA : Hid (∀ W, Below (wr.alloc (.cells #[.int .u64 (hI r.f), .int .u64 (lI r.f), .bool r.k, .int .i64 r.n] 64)).heap.size (wr.alloc (.cells #[.int .u64 (hI r.f), .int .u64 (lI r.f), .bool r.k, .int .i64 r.n] 64)) W → W.cell? ⟨w.heap.size, 0, none⟩ = some (.int .i64 b) ∧ W.cell? ⟨wr.heap.size, 0, none⟩ = some (.int .u64 (hI r.f)) ∧ W.cell? ⟨wr.heap.size, 1, none⟩ = some (.int .u64 (lI r.f)) ∧ Below (wr.alloc (.cells #[.int .u64 (hI r.f), .int .u64 (lI r.f), .bool r.k, .int .i64 r.n] 64)).heap.size (wr.alloc (.cells #[.int .u64 (hI r.f), .int .u64 (lI r.f), .bool r.k, .int .i64 r.n] 64)) W) := fun W h => ⟨keepc h HD1.out.1, keepc h n0, keepc h n1, h⟩
      have hbl := (Below.refl (wr.alloc (.cells #[.int .u64 (hI r.f), .int .u64 (lI r.f), .bool r.k, .int .i64 r.n] 64)).heap.size (wr.alloc (.cells #[.int .u64 (hI r.f), .int .u64 (lI r.f), .bool r.k, .int .i64 r.n] 64))).drew
      obtain ⟨m0, m1, m2, -⟩ := HA.out _ hbl
      clear hld hcell
      by_cases hz : k = 0 ∧ r.f ≠ 0#128
      · have ht := HF.out (fun h => hz.2 (h.z hz.1))
        obtain ⟨hz1, hz2⟩ := hz
        subst ht
        have ek : ((k : Int) == 0) = true := by simp [hz1]
        have ez : (r.f == 0#128) = false := by simpa using hz2
        simp only [ez] at E0
        have HB2 := hid13 (keepb hbl HB1.out)
        clear KL hz2 HA HF hz1
        go_wp2_with fail
        go_region
        go_wp2
        go_ret
        exact ⟨rfl, HB2.out⟩
      · by_cases hk0 : k = 0
        · have ez : (r.f == 0#128) = true := by simpa using fun h => hz ⟨hk0, h⟩
          simp only [ez] at E0
          have ek : ((k : Int) == 0) = true := by simp [hk0]
          have HZ : Hid (k = 0 ∧ r.f = 0#128) := ⟨hk0, by simpa using ez⟩
          clear hz hk0
          by_cases hw : ld < 128 - b
          · have ht := HF.out (fun h => h.w (by rw [← HLd.out]; exact hw))
            subst ht
            clear HF
            go_wp2_with fail
            go_region_held3 (fun w' => w'.cell? ⟨w.heap.size, 0, none⟩ = some (.int .i64 b) ∧ w'.cell? ⟨wr.heap.size, 0, none⟩ = some (.int .u64 (hI r.f)) ∧ w'.cell? ⟨wr.heap.size, 1, none⟩ = some (.int .u64 (lI r.f)) ∧ Below (wr.alloc (.cells #[.int .u64 (hI r.f), .int .u64 (lI r.f), .bool r.k, .int .i64 r.n] 64)).heap.size (wr.alloc (.cells #[.int .u64 (hI r.f), .int .u64 (lI r.f), .bool r.k, .int .i64 r.n] 64)) w')
              (first
                | exact HA.out _ hbl
                | (obtain ⟨-, -, -, k9⟩ := ‹_ ∧ _ ∧ _ ∧ Below _ _ _›; exact HA.out _ (keepb hb0 k9))
                | (obtain ⟨-, -, -, k9⟩ := ‹_ ∧ _ ∧ _ ∧ Below _ _ _›; exact HA.out _ k9))
              (first | (go_at_call 49; refine (KL _).mono ?_; rintro e w0 ⟨rfl, hb0⟩))
            obtain ⟨-, -, -, k9⟩ := ‹_ ∧ _ ∧ _ ∧ Below _ _ _›
            have HB2 := hid13 (keepb k9 HB1.out)
            clear k9 hb0 KL HA
            go_wp2
            go_ret
            exact ⟨rfl, HB2.out⟩
          · have HR2 : Hid (∀ j r, j < k + 1 → l[j]? = some r → RsAt b l j r) := fun j r' hj h => by
              have e0 := HZ.out.1
              have : j = k := by omega
              subst this
              rw [hr] at h
              injection h with h
              subst h
              exact ⟨fun _ => HZ.out.2, by rw [← HLd.out]; exact hw, fun p h => by omega⟩
            clear HF
            go_wp2_with fail
            go_region_held3 (fun w' => w'.cell? ⟨w.heap.size, 0, none⟩ = some (.int .i64 b) ∧ w'.cell? ⟨wr.heap.size, 0, none⟩ = some (.int .u64 (hI r.f)) ∧ w'.cell? ⟨wr.heap.size, 1, none⟩ = some (.int .u64 (lI r.f)) ∧ Below (wr.alloc (.cells #[.int .u64 (hI r.f), .int .u64 (lI r.f), .bool r.k, .int .i64 r.n] 64)).heap.size (wr.alloc (.cells #[.int .u64 (hI r.f), .int .u64 (lI r.f), .bool r.k, .int .i64 r.n] 64)) w')
              (first
                | exact HA.out _ hbl
                | (obtain ⟨-, -, -, k9⟩ := ‹_ ∧ _ ∧ _ ∧ Below _ _ _›; exact HA.out _ (keepb hb0 k9))
                | (obtain ⟨-, -, -, k9⟩ := ‹_ ∧ _ ∧ _ ∧ Below _ _ _›; exact HA.out _ k9))
              (first | (go_at_call 49; refine (KL _).mono ?_; rintro e w0 ⟨rfl, hb0⟩))
            obtain ⟨-, -, -, k9⟩ := ‹_ ∧ _ ∧ _ ∧ Below _ _ _›
            have HB2 := hid13 (keepb k9 HB1.out)
            have HD2 := hid13 (HD1.out.below k9)
            have hk00 := HZ.out.1
            clear k9 hb0 KL HA r0 r1 r2 r3 ek E0 HZ
            subst hk00
            go_wp2
            go_roundg (gk - 1)
            case measure => have := HK.out; omega
            case rel => exact ⟨1, by have := HK.out; omega, rfl, HR2, HD2, HB2⟩
        · have ek : ((k : Int) == 0) = false := by simp [hk0]
          have HK1 := hid13 hk0
          by_cases hw : ld < 128 - b
          · have ht := HF.out (fun h => h.w (by rw [← HLd.out]; exact hw))
            subst ht
            clear HF hz hk0
            go_wp2_with fail
            refine qw_region (C := fun W => Below (wr.alloc (.cells #[.int .u64 (hI r.f), .int .u64 (lI r.f), .bool r.k, .int .i64 r.n] 64)).heap.size (wr.alloc (.cells #[.int .u64 (hI r.f), .int .u64 (lI r.f), .bool r.k, .int .i64 r.n] 64)) W) (by kernel_rfl) (by kernel_rfl) hbl ?_
            refine qw_run (v := .int .i64 (k : Int)) (by rfl) ?_ ?_
            · (intro w9 hC; obtain ⟨c0, c1, c2, -⟩ := HA.out _ hC; clear hC; go_simp; first | done | (simp; done) | (simp [*]; done) | omega | (simp; omega) | (rw [IntKind.wrap_i64]; omega) | rfl)
            simp only [Act.put, List.setIfInBounds_toArray, List.set_cons_zero, List.set_cons_succ]
            refine qw_run (v := .bool false) (by rfl) ?_ ?_
            · (intro w9 hC; obtain ⟨c0, c1, c2, -⟩ := HA.out _ hC; clear hC; go_simp; first | done | (simp; done) | (simp [*]; done) | omega | (simp; omega) | (rw [IntKind.wrap_i64]; omega) | rfl)
            simp only [Act.put, List.setIfInBounds_toArray, List.set_cons_zero, List.set_cons_succ]
            refine qw_run (v := .bool false) (by rfl) ?_ ?_
            · (intro w9 hC; obtain ⟨c0, c1, c2, -⟩ := HA.out _ hC; clear hC; go_simp; first | done | (simp; done) | (simp [*]; done) | omega | (simp; omega) | (rw [IntKind.wrap_i64]; omega) | rfl)
            simp only [Act.put, List.setIfInBounds_toArray, List.set_cons_zero, List.set_cons_succ]
            refine qw_skip (by rfl) ?_
            simp only [Act.put, List.setIfInBounds_toArray, List.set_cons_zero, List.set_cons_succ]
            refine qw_skip (by rfl) ?_
            simp only [Act.put, List.setIfInBounds_toArray, List.set_cons_zero, List.set_cons_succ]
            refine qw_skip (by rfl) ?_
            simp only [Act.put, List.setIfInBounds_toArray, List.set_cons_zero, List.set_cons_succ]
            refine qw_skip (by rfl) ?_
            simp only [Act.put, List.setIfInBounds_toArray, List.set_cons_zero, List.set_cons_succ]
            refine qw_run (v := .bool false) (by rfl) ?_ ?_
            · (intro w9 hC; obtain ⟨c0, c1, c2, -⟩ := HA.out _ hC; clear hC; go_simp; first | done | (simp; done) | (simp [*]; done) | omega | (simp; omega) | (rw [IntKind.wrap_i64]; omega) | rfl)
            simp only [Act.put, List.setIfInBounds_toArray, List.set_cons_zero, List.set_cons_succ]
            refine qw_run (v := .bool false) (by rfl) ?_ ?_
            · (intro w9 hC; obtain ⟨c0, c1, c2, -⟩ := HA.out _ hC; clear hC; go_simp; first | done | (simp; done) | (simp [*]; done) | omega | (simp; omega) | (rw [IntKind.wrap_i64]; omega) | rfl)
            simp only [Act.put, List.setIfInBounds_toArray, List.set_cons_zero, List.set_cons_succ]
            refine qw_run (v := .pointer (some ⟨wr.heap.size, 0, none⟩)) (by rfl) ?_ ?_
            · (intro w9 hC; obtain ⟨c0, c1, c2, -⟩ := HA.out _ hC; clear hC; go_simp; first | done | (simp; done) | (simp [*]; done) | omega | (simp; omega) | (rw [IntKind.wrap_i64]; omega) | rfl)
            simp only [Act.put, List.setIfInBounds_toArray, List.set_cons_zero, List.set_cons_succ]
            refine qw_run (v := .agg #[.int .u64 (hI r.f), .int .u64 (lI r.f)]) (by rfl) ?_ ?_
            · (intro w9 hC; obtain ⟨c0, c1, c2, -⟩ := HA.out _ hC; clear hC; go_simp; first | done | (simp; done) | (simp [*]; done) | omega | (simp; omega) | (rw [IntKind.wrap_i64]; omega) | rfl)
            simp only [Act.put, List.setIfInBounds_toArray, List.set_cons_zero, List.set_cons_succ]
            refine qw_call (v := .int .i64 ld) (f := 49) (args := #[.agg #[.int .u64 (hI r.f), .int .u64 (lI r.f)]]) (by rfl) ?_ ?_ ?_
            · (intro w9 hC; clear hC; go_simp; first | done | (simp; done) | rfl)
            · exact fun w9 hC => (KL w9).mono fun e w' h => ⟨h.1, keepb h.2 hC⟩
            simp only [Act.put, List.setIfInBounds_toArray, List.set_cons_zero, List.set_cons_succ]
            refine qw_run (v := .pointer (some ⟨w.heap.size, 0, none⟩)) (by rfl) ?_ ?_
            · (intro w9 hC; obtain ⟨c0, c1, c2, -⟩ := HA.out _ hC; clear hC; go_simp; first | done | (simp; done) | (simp [*]; done) | omega | (simp; omega) | (rw [IntKind.wrap_i64]; omega) | rfl)
            simp only [Act.put, List.setIfInBounds_toArray, List.set_cons_zero, List.set_cons_succ]
            refine qw_run (v := .int .i64 b) (by rfl) ?_ ?_
            · (intro w9 hC; obtain ⟨c0, c1, c2, -⟩ := HA.out _ hC; clear hC; go_simp; first | done | (simp; done) | (simp [*]; done) | omega | (simp; omega) | (rw [IntKind.wrap_i64]; omega) | rfl)
            simp only [Act.put, List.setIfInBounds_toArray, List.set_cons_zero, List.set_cons_succ]
            refine qw_run (v := .int .i64 (128 - b)) (by rfl) ?_ ?_
            · (intro w9 hC; obtain ⟨c0, c1, c2, -⟩ := HA.out _ hC; clear hC; go_simp; first | done | (simp; done) | (simp [*]; done) | omega | (simp; omega) | (rw [IntKind.wrap_i64]; omega) | rfl)
            simp only [Act.put, List.setIfInBounds_toArray, List.set_cons_zero, List.set_cons_succ]
            refine qw_run (v := .bool true) (by rfl) ?_ ?_
            · (intro w9 hC; obtain ⟨c0, c1, c2, -⟩ := HA.out _ hC; clear hC; go_simp; first | done | (simp; done) | (simp [*]; done) | omega | (simp; omega) | (rw [IntKind.wrap_i64]; omega) | rfl)
            simp only [Act.put, List.setIfInBounds_toArray, List.set_cons_zero, List.set_cons_succ]
            refine qw_run (v := .bool true) (by rfl) ?_ ?_
            · (intro w9 hC; obtain ⟨c0, c1, c2, -⟩ := HA.out _ hC; clear hC; go_simp; first | done | (simp; done) | (simp [*]; done) | omega | (simp; omega) | (rw [IntKind.wrap_i64]; omega) | rfl)
            simp only [Act.put, List.setIfInBounds_toArray, List.set_cons_zero, List.set_cons_succ]
            refine qw_nil ?_
            intro w0 k9
            have HB2 := hid13 (keepb k9 HB1.out)
            clear k9 KL HA
            go_wp2
            go_ret
            exact ⟨rfl, HB2.out⟩
          · obtain ⟨k', hk'⟩ : ∃ k', k' + 1 = k := ⟨k - 1, by omega⟩
            have kg : 0 < k := by omega
            have hkl : k' < l.length := by omega
            have ki : (k' : Int) < (l.length : Int) := by omega
            have mk1 : IntKind.i64.wrap ((k : Int) - 1) = (k' : Int) := by rw [IntKind.wrap_i64]; omega
            have mk : IntKind.i64.wrap ((k : Int) + 1) = (k : Int) + 1 := by rw [IntKind.wrap_i64]; omega
            obtain ⟨p, hp⟩ : ∃ p, l[k']? = some p := ⟨_, List.getElem?_eq_getElem hkl⟩
            have HP : Hid (l[k - 1]? = some p) := by show _ = _; rw [← hp]; congr 1; omega
            obtain ⟨rb', off', e9, hcell⟩ := HC.out.resolve_left (by rintro rfl; simp at hks)
            injection e9 with e9
            injection e9 with e91 e92
            subst e91 e92
            have HPc := hid13 (hcell k' p hp)
            have KC := fun w => rcmp_any p.f r.f w
            obtain ⟨cz, hcz⟩ : ∃ cz, cz = cmpZ p.f r.f := ⟨_, rfl⟩
            rw [← hcz] at KC
            have HCz := hid13 hcz
            have HN : Hid (RnAt (wr.alloc (.cells #[.int .u64 (hI r.f), .int .u64 (lI r.f), .bool r.k, .int .i64 r.n] 64)) wr.heap.size 0 r) := rnat_new wr r 64
            clear hz hk0 hcell hk' hp hcz hkl n0 n1 n2 n3
            go_wp2_with fail
            refine qw_region (C := fun W => Below (wr.alloc (.cells #[.int .u64 (hI r.f), .int .u64 (lI r.f), .bool r.k, .int .i64 r.n] 64)).heap.size (wr.alloc (.cells #[.int .u64 (hI r.f), .int .u64 (lI r.f), .bool r.k, .int .i64 r.n] 64)) W) (by kernel_rfl) (by kernel_rfl) hbl ?_
            refine qw_run (v := .int .i64 (k : Int)) (by rfl) ?_ ?_
            · (intro w9 hC; obtain ⟨c0, c1, c2, -⟩ := HA.out _ hC; clear hC; go_simp; first | done | (simp; done) | (simp [*]; done) | omega | (simp; omega) | (rw [IntKind.wrap_i64]; omega) | rfl)
            simp only [Act.put, List.setIfInBounds_toArray, List.set_cons_zero, List.set_cons_succ]
            refine qw_run (v := .bool false) (by rfl) ?_ ?_
            · (intro w9 hC; obtain ⟨c0, c1, c2, -⟩ := HA.out _ hC; clear hC; go_simp; first | done | (simp; done) | (simp [*]; done) | omega | (simp; omega) | (rw [IntKind.wrap_i64]; omega) | rfl)
            simp only [Act.put, List.setIfInBounds_toArray, List.set_cons_zero, List.set_cons_succ]
            refine qw_run (v := .bool false) (by rfl) ?_ ?_
            · (intro w9 hC; obtain ⟨c0, c1, c2, -⟩ := HA.out _ hC; clear hC; go_simp; first | done | (simp; done) | (simp [*]; done) | omega | (simp; omega) | (rw [IntKind.wrap_i64]; omega) | rfl)
            simp only [Act.put, List.setIfInBounds_toArray, List.set_cons_zero, List.set_cons_succ]
            refine qw_skip (by rfl) ?_
            simp only [Act.put, List.setIfInBounds_toArray, List.set_cons_zero, List.set_cons_succ]
            refine qw_skip (by rfl) ?_
            simp only [Act.put, List.setIfInBounds_toArray, List.set_cons_zero, List.set_cons_succ]
            refine qw_skip (by rfl) ?_
            simp only [Act.put, List.setIfInBounds_toArray, List.set_cons_zero, List.set_cons_succ]
            refine qw_skip (by rfl) ?_
            simp only [Act.put, List.setIfInBounds_toArray, List.set_cons_zero, List.set_cons_succ]
            refine qw_run (v := .bool false) (by rfl) ?_ ?_
            · (intro w9 hC; obtain ⟨c0, c1, c2, -⟩ := HA.out _ hC; clear hC; go_simp; first | done | (simp; done) | (simp [*]; done) | omega | (simp; omega) | (rw [IntKind.wrap_i64]; omega) | rfl)
            simp only [Act.put, List.setIfInBounds_toArray, List.set_cons_zero, List.set_cons_succ]
            refine qw_run (v := .bool false) (by rfl) ?_ ?_
            · (intro w9 hC; obtain ⟨c0, c1, c2, -⟩ := HA.out _ hC; clear hC; go_simp; first | done | (simp; done) | (simp [*]; done) | omega | (simp; omega) | (rw [IntKind.wrap_i64]; omega) | rfl)
            simp only [Act.put, List.setIfInBounds_toArray, List.set_cons_zero, List.set_cons_succ]
            refine qw_run (v := .pointer (some ⟨wr.heap.size, 0, none⟩)) (by rfl) ?_ ?_
            · (intro w9 hC; obtain ⟨c0, c1, c2, -⟩ := HA.out _ hC; clear hC; go_simp; first | done | (simp; done) | (simp [*]; done) | omega | (simp; omega) | (rw [IntKind.wrap_i64]; omega) | rfl)
            simp only [Act.put, List.setIfInBounds_toArray, List.set_cons_zero, List.set_cons_succ]
            refine qw_run (v := .agg #[.int .u64 (hI r.f), .int .u64 (lI r.f)]) (by rfl) ?_ ?_
            · (intro w9 hC; obtain ⟨c0, c1, c2, -⟩ := HA.out _ hC; clear hC; go_simp; first | done | (simp; done) | (simp [*]; done) | omega | (simp; omega) | (rw [IntKind.wrap_i64]; omega) | rfl)
            simp only [Act.put, List.setIfInBounds_toArray, List.set_cons_zero, List.set_cons_succ]
            refine qw_call (v := .int .i64 ld) (f := 49) (args := #[.agg #[.int .u64 (hI r.f), .int .u64 (lI r.f)]]) (by rfl) ?_ ?_ ?_
            · (intro w9 hC; clear hC; go_simp; first | done | (simp; done) | rfl)
            · exact fun w9 hC => (KL w9).mono fun e w' h => ⟨h.1, keepb h.2 hC⟩
            simp only [Act.put, List.setIfInBounds_toArray, List.set_cons_zero, List.set_cons_succ]
            refine qw_run (v := .pointer (some ⟨w.heap.size, 0, none⟩)) (by rfl) ?_ ?_
            · (intro w9 hC; obtain ⟨c0, c1, c2, -⟩ := HA.out _ hC; clear hC; go_simp; first | done | (simp; done) | (simp [*]; done) | omega | (simp; omega) | (rw [IntKind.wrap_i64]; omega) | rfl)
            simp only [Act.put, List.setIfInBounds_toArray, List.set_cons_zero, List.set_cons_succ]
            refine qw_run (v := .int .i64 b) (by rfl) ?_ ?_
            · (intro w9 hC; obtain ⟨c0, c1, c2, -⟩ := HA.out _ hC; clear hC; go_simp; first | done | (simp; done) | (simp [*]; done) | omega | (simp; omega) | (rw [IntKind.wrap_i64]; omega) | rfl)
            simp only [Act.put, List.setIfInBounds_toArray, List.set_cons_zero, List.set_cons_succ]
            refine qw_run (v := .int .i64 (128 - b)) (by rfl) ?_ ?_
            · (intro w9 hC; obtain ⟨c0, c1, c2, -⟩ := HA.out _ hC; clear hC; go_simp; first | done | (simp; done) | (simp [*]; done) | omega | (simp; omega) | (rw [IntKind.wrap_i64]; omega) | rfl)
            simp only [Act.put, List.setIfInBounds_toArray, List.set_cons_zero, List.set_cons_succ]
            refine qw_run (v := .bool false) (by rfl) ?_ ?_
            · (intro w9 hC; obtain ⟨c0, c1, c2, -⟩ := HA.out _ hC; clear hC; go_simp; first | done | (simp; done) | (simp [*]; done) | omega | (simp; omega) | (rw [IntKind.wrap_i64]; omega) | rfl)
            simp only [Act.put, List.setIfInBounds_toArray, List.set_cons_zero, List.set_cons_succ]
            refine qw_run (v := .bool false) (by rfl) ?_ ?_
            · (intro w9 hC; obtain ⟨c0, c1, c2, -⟩ := HA.out _ hC; clear hC; go_simp; first | done | (simp; done) | (simp [*]; done) | omega | (simp; omega) | (rw [IntKind.wrap_i64]; omega) | rfl)
            simp only [Act.put, List.setIfInBounds_toArray, List.set_cons_zero, List.set_cons_succ]
            refine qw_nil ?_
            intro w0 k9
            have HB2 := hid13 (keepb k9 HB1.out)
            have HD2 := hid13 (HD1.out.below k9)
            have HN2 := hid13 (HN.out.below k9)
            obtain ⟨d0, d1⟩ := HD2.out
            obtain ⟨s0, s1, s2, s3⟩ := HN2.out
            obtain ⟨p0, p1, p2, p3⟩ := HPc.out.below HB2.out
            have q3 := bl1 w0 (.cells #[.int .u64 (hI p.f), .int .u64 (lI p.f), .bool p.k, .int .i64 p.n] 64)
            have HQ := hid13 (rnat_new w0 p 64)
            have HN3 := hid13 (HN2.out.below q3)
            have HD3 := hid13 (HD2.out.below q3)
            have HB3 := hid13 (keepb q3 HB2.out)
            obtain ⟨v0, v1, v2, v3⟩ := HN3.out
            obtain ⟨y0, y1, y2, y3⟩ := HQ.out
            clear k9 KL HA q3 r0 r1 r2 r3 m0 m1 m2 a0 a1 E0
            go_wp2_with fail
            refine (KC _).mono ?_
            rintro e w5 ⟨rfl, hb5⟩
            have HB5 := hid13 (keepb hb5 HB3.out)
            have HD5 := hid13 (HD3.out.below hb5)
            obtain ⟨z0, z1, z2, z3⟩ := HN3.out.below hb5
            obtain ⟨x0, x1, x2, x3⟩ := HQ.out.below hb5
            clear KC hb5 d0 d1 s0 s1 s2 s3 p0 p1 p2 p3 v0 v1 v2 v3 y0 y1 y2 y3
            by_cases hcz : 0 ≤ cz
            · have ht := HF.out (fun h => by have := (h.p p kg HP.out).1; rw [← HCz.out] at this; omega)
              subst ht
              clear HF
              go_wp2
              go_ret
              exact ⟨rfl, HB5.out⟩
            · by_cases hkk : p.k = r.k
              · by_cases hnn : p.n = r.n
                · have ht := HF.out (fun h => by have := (h.p p kg HP.out).2; unfold smR at this; simp [hkk, hnn] at this)
                  subst ht
                  clear HF
                  go_wp2
                  go_ret
                  exact ⟨rfl, HB5.out⟩
                · clear HF
                  have HR2 : Hid (∀ j r, j < k + 1 → l[j]? = some r → RsAt b l j r) := fun j r' hj h => by
                    by_cases hjk : j < k
                    · exact HR.out j r' hjk h
                    · have : j = k := by omega
                      subst this
                      rw [hr] at h
                      injection h with h
                      subst h
                      refine ⟨fun h => absurd h HK1.out, by rw [← HLd.out]; omega, fun p' _ hp' => ?_⟩
                      rw [HP.out] at hp'
                      injection hp' with hp'
                      subst hp'
                      exact ⟨by rw [← HCz.out]; omega, by unfold smR; simp [hnn]⟩
                  have hnb : (p.n == r.n) = false := by simpa using hnn
                  clear hnn
                  go_wp2
                  go_roundg (gk - 1)
                  case measure => have := HK.out; omega
                  case rel => exact ⟨k + 1, by have := HK.out; omega, rfl, HR2, HD5, HB5⟩
              · clear HF
                have HR2 : Hid (∀ j r, j < k + 1 → l[j]? = some r → RsAt b l j r) := fun j r' hj h => by
                  by_cases hjk : j < k
                  · exact HR.out j r' hjk h
                  · have : j = k := by omega
                    subst this
                    rw [hr] at h
                    injection h with h
                    subst h
                    refine ⟨fun h => absurd h HK1.out, by rw [← HLd.out]; omega, fun p' _ hp' => ?_⟩
                    rw [HP.out] at hp'
                    injection hp' with hp'
                    subst hp'
                    exact ⟨by rw [← HCz.out]; omega, by unfold smR; simp [hkk]⟩
                go_wp2
                go_roundg (gk - 1)
                case measure => have := HK.out; omega
                case rel => exact ⟨k + 1, by have := HK.out; omega, rfl, HR2, HD5, HB5⟩
    · have hke : k = l.length := by omega
      subst hke
      have HOk : Hid (0 < l.length → RsOk b l) := fun h => ⟨by rintro rfl; simp at h, fun j r hj => HR.out j r (List.getElem?_eq_some_iff.mp hj).1 hj⟩
      by_cases hl0 : (0 : Int) < (l.length : Int)
      · have ht : t = true := HT.out.mp (HOk.out (by omega))
        subst ht
        have hln : 0 < l.length := by omega
        have hlt2 : ¬ (l.length : Int) < (l.length : Int) := by omega
        clear HC
        go_wp2
        go_ret
        exact ⟨by simp [hln], HB.out⟩
      · have ht : t = false := by
          cases ht : t with
          | false => rfl
          | true =>
            have := List.length_pos_iff.mpr (HT.out.mpr ht).1
            omega
        subst ht
        have hln : ¬ 0 < l.length := by omega
        clear HC
        go_wp2
        go_ret
        exact ⟨by simp [hln], HB.out⟩
end Go.Proofs.Ytkchalaicmanfaa
namespace Go.Proofs.Ytkchalaicmanfaa
open Go.RowKit Go.Shelf
set_option linter.unusedSimpArgs false
set_option linter.unusedVariables false
attribute [local go_sem] Oper.semAt_some

theorem rwd_one (w : World) (b : Int) (v : Value) (l : List Rn) (T : TypeId) (hv : RwN w v l) : RwD (w.alloc (.cells #[.int .i64 b, v] T)) (.slice (some ⟨w.heap.size, 0, none⟩) 1 1) [⟨b, l⟩] := by
  refine ⟨_, 1, rfl, Nat.le_refl _, .inr ⟨w.heap.size, 0, rfl, fun j d hj => ?_⟩⟩
  cases j with
  | zero =>
    simp at hj
    subst hj
    exact ⟨v, (atd_new w b v T).1, (atd_new w b v T).2, hv.below (bl1 _ _)⟩
  | succ j => simp at hj
def wdsE (d : Nde) : Int := if bitsB d.b = true then (if ioB d = true then (if d.b ≤ 24 then 0 else 18) else 19) else 1
def wdsN (d : Nde) : Int := if wdsE d = 0 then (szN d : Int) else 0
theorem chk_one (d : Nde) : ((chkM 128 [d]).2 = 1 ↔ bitsB d.b = false) ∧ ((chkM 128 [d]).2 = 19 ↔ (bitsB d.b = true ∧ ioB d = false)) := by
  have hf : fam 128 = true := by decide
  have ha : argB d.b 1 = bitsB d.b := by unfold argB; simp
  have hr : ∀ (l : List Rn), runsE 0 1 l = 0 ∨ runsE 0 1 l = 15 ∨ runsE 0 1 l = 26 := by
    intro l
    induction l with
    | nil => exact .inl rfl
    | cons r l ih =>
      unfold runsE
      have : runE r 0 1 = 0 ∨ runE r 0 1 = 15 ∨ runE r 0 1 = 26 := by unfold runE; split <;> split <;> simp
      rcases this with q | q | q
      · rw [if_pos q]; exact ih
      · rw [if_neg (by omega)]; exact .inr (.inl q)
      · rw [if_neg (by omega)]; exact .inr (.inr q)
  have hd : (deepR 128 [d]).2 = 0 ∨ (deepR 128 [d]).2 = 27 := by
    unfold deepR dpG
    split
    · exact .inr rfl
    · exact .inl rfl
  have hn : nodesE [d] = ndeE d 0 1 := by
    unfold nodesE
    rw [if_neg (by simp)]
    show ndsE 1 0 [d] = _
    unfold ndsE
    by_cases q : ndeE d ((0 : Nat) : Int) 1 = 0
    · rw [if_pos q]; exact q.symm
    · rw [if_neg q]; rfl
  unfold chkM
  rw [if_pos hf, hn]
  unfold ndeE
  rw [ha]
  cases hb : bitsB d.b with
  | false => simp
  | true =>
    cases hio : ioB d with
    | false => simp
    | true =>
      simp only [if_true]
      rcases hr d.r with q | q | q
      · rw [if_pos q]
        cases hu : usedB [d] with
        | false => simp
        | true =>
          simp only [if_true]
          rcases hd with z | z <;> rw [z] <;> simp
      · rw [if_neg (by omega), q]; simp
      · rw [if_neg (by omega), q]; simp
end Go.Proofs.Ytkchalaicmanfaa
namespace Go.Proofs.Ytkchalaicmanfaa
open Go.RowKit Go.Shelf
set_option linter.unusedSimpArgs false
set_option linter.unusedVariables false
attribute [local go_sem] Oper.semAt_some

set_option maxRecDepth 20000 in
set_option maxHeartbeats 4000000 in
theorem words_any16 (b : Int) (v : Value) (l : List Rn) (w : World) (hv : RwN w v l) (hl : l.length ≤ 1000000000) :
    Calls Try.prog 10 #[.agg #[.int .i64 b, v]] w fun e w' => e = .returned (.tuple #[.int .i64 (wdsN ⟨b, l⟩), .int .i64 (wdsE ⟨b, l⟩)]) ∧ Below w.heap.size w w' := by
  obtain ⟨ao, c, hvf, -⟩ := id hv
  have q1 := bl1 w (.cells #[.int .i64 b, v] 24)
  have a1 := atd_new w b v 24
  have hv1 := hv.below q1
  have KC := mcheck_any 128 (.slice (some ⟨w.heap.size + 1, 0, none⟩) 1 1) [⟨b, l⟩] ((w.alloc (.cells #[.int .i64 b, v] 24)).alloc (.cells #[.int .i64 b, v] 24)) (by have := rwd_one (w.alloc (.cells #[.int .i64 b, v] 24)) b v l 24 hv1; rwa [World.size_alloc] at this) (by simp) (by simpa using hl)
  obtain ⟨o1, o2⟩ := chk_one ⟨b, l⟩
  have HK1 := hid13 o1
  have HK2 := hid13 o2
  have HV := hid13 (hv1.below (bl1 _ (.cells #[.int .i64 b, v] 24)))
  have HA := hid13 (a1.below (bl1 _ (.cells #[.int .i64 b, v] 24)))
  have HB := hid13 (bl2 w (.cells #[.int .i64 b, v] 24) (.cells #[.int .i64 b, v] 24))
  have HL : Hid (l.length ≤ 1000000000) := hl
  generalize chkM 128 [⟨b, l⟩] = cm at *
  obtain ⟨cd, ce⟩ := cm
  dsimp only at KC HK1 HK2
  subst hvf
  clear o1 o2 q1 a1 hv1 hv
  go_enter Try.func10, Try.ntmps10
  go_wp2_with fail
  refine KC.mono ?_
  rintro e w2 ⟨rfl, hb2⟩
  have HB2 := hid13 (keepb hb2 HB.out)
  have HV2 := hid13 (HV.out.below hb2)
  obtain ⟨a0, a1⟩ := HA.out.below hb2
  have HA2 : Hid (AtD w2 w.heap.size b (.slice ao l.length c)) := ⟨a0, a1⟩
  clear KC hb2 HB HV HA
  cases hb : bitsB b with
  | false =>
    have hce : ce = 1 := HK1.out.2 hb
    have HE : Hid (wdsE ⟨b, l⟩ = 1 ∧ wdsN ⟨b, l⟩ = 0) := by
      have : wdsE ⟨b, l⟩ = 1 := by unfold wdsE; rw [if_neg (by simp [hb])]
      exact ⟨this, by unfold wdsN; rw [this]; rfl⟩
    subst hce
    clear hb HK1 HK2
    go_wp2
    exact bodyPost_ret (v := .tuple #[.int .i64 0, .int .i64 1]) (by simp [results, Try.results10, go_sem]) rfl ⟨by rw [HE.out.1, HE.out.2], HB2.out⟩
  | true =>
    have hc1 : (ce == 1) = false := by
      rw [beq_eq_false_iff_ne]; intro q
      have := HK1.out.1 q
      rw [hb] at this; cases this
    cases hio : ioB ⟨b, l⟩ with
    | false =>
      have hce : ce = 19 := HK2.out.2 ⟨hb, hio⟩
      have HE : Hid (wdsE ⟨b, l⟩ = 19 ∧ wdsN ⟨b, l⟩ = 0) := by
        have : wdsE ⟨b, l⟩ = 19 := by unfold wdsE; rw [if_pos (by simp [hb]), if_neg (by simp [hio])]
        exact ⟨this, by unfold wdsN; rw [this]; rfl⟩
      subst hce
      clear hb HK1 HK2 hio hc1
      go_wp2
      exact bodyPost_ret (v := .tuple #[.int .i64 0, .int .i64 19]) (by simp [results, Try.results10, go_sem]) rfl ⟨by rw [HE.out.1, HE.out.2], HB2.out⟩
    | true =>
      have hc2 : (ce == 19) = false := by
        rw [beq_eq_false_iff_ne]; intro q
        have := (HK2.out.1 q).2
        rw [hio] at this; cases this
      have KL := fun w => canBeLaid_any b ao l.length c w
      by_cases h24 : b ≤ 24
      · have HE : Hid (wdsE ⟨b, l⟩ = 0 ∧ wdsN ⟨b, l⟩ = (szN ⟨b, l⟩ : Int)) := by
          have : wdsE ⟨b, l⟩ = 0 := by unfold wdsE; rw [if_pos (by simp [hb]), if_pos (by simp [hio]), if_pos h24]
          exact ⟨this, by unfold wdsN; rw [if_pos this]⟩
        have h0 : 0 ≤ b := by unfold bitsB at hb; simp at hb; exact hb.1
        have KS := fun w h => size_any16 b (.slice ao l.length c) l w h h0 h24 HL.out
        rw [decide_eq_true h24] at KL
        clear hb HK1 HK2 hio h24
        go_wp2_with fail
        refine (KL _).mono ?_
        rintro e w3 ⟨rfl, hb3⟩
        have HB3 := hid13 (keepb hb3 HB2.out)
        have KS3 := KS _ (HV2.out.below hb3)
        have a0 := keepc hb3 a0
        have a1 := keepc hb3 a1
        clear KL hb3 KS HB2 HV2 HA2
        go_wp2_with fail
        refine KS3.mono ?_
        rintro e w4 ⟨rfl, hb4⟩
        have HB4 := hid13 (keepb hb4 HB3.out)
        clear KS3 hb4 HB3
        go_wp2
        exact bodyPost_ret (v := .tuple #[.int .i64 (szN ⟨b, l⟩ : Int), .int .i64 0]) (by simp [results, Try.results10, go_sem]) rfl ⟨by rw [HE.out.1, HE.out.2], HB4.out⟩
      · have HE : Hid (wdsE ⟨b, l⟩ = 18 ∧ wdsN ⟨b, l⟩ = 0) := by
          have : wdsE ⟨b, l⟩ = 18 := by unfold wdsE; rw [if_pos (by simp [hb]), if_pos (by simp [hio]), if_neg h24]
          exact ⟨this, by unfold wdsN; rw [this]; rfl⟩
        rw [decide_eq_false h24] at KL
        clear hb HK1 HK2 hio h24
        go_wp2_with fail
        refine (KL _).mono ?_
        rintro e w3 ⟨rfl, hb3⟩
        have HB3 := hid13 (keepb hb3 HB2.out)
        clear KL hb3 HB2 HV2 HA2
        go_wp2
        exact bodyPost_ret (v := .tuple #[.int .i64 0, .int .i64 18]) (by simp [results, Try.results10, go_sem]) rfl ⟨by rw [HE.out.1, HE.out.2], HB3.out⟩
end Go.Proofs.Ytkchalaicmanfaa
namespace Go.Proofs.Ytkchalaicmanfaa
open Go.RowKit
set_option linter.unusedSimpArgs false
set_option linter.unusedVariables false

theorem rmapWords_any (n : Nat) (h : n ≤ 24) (w : World) :
    Calls Try.prog 32 #[.int .i64 (n : Int)] w fun e w' => e = .returned (.int .i64 (mwN n : Int)) ∧ w' = w := by
  by_cases c : n < 5
  · have c1 : (n : Int) < 5 := by omega
    have e : Hid (mwN n = 1) := by show _ = _; unfold mwN; rw [if_pos c]
    clear c h
    go_enter Try.func32, Try.ntmps32
    go_wp2
    go_ret
    exact ⟨by rw [e.out]; rfl, rfl⟩
  · have c1 : ¬ (n : Int) < 5 := by omega
    obtain ⟨j, hj⟩ : ∃ j, j = n - 5 := ⟨_, rfl⟩
    have hs := sh64 j (by omega)
    obtain ⟨P, hP⟩ : ∃ P : Nat, P = 2 ^ j := ⟨_, rfl⟩
    rw [← hP] at hs
    have e : Hid (mwN n = P) := by show _ = _; unfold mwN; rw [if_neg c, hP, hj]
    have hw : IntKind.i64.wrap ((n : Int) - 5) = (j : Int) := by rw [IntKind.wrap_i64]; omega
    clear c h hP hj
    go_enter Try.func32, Try.ntmps32
    go_wp2
    go_ret
    exact ⟨by rw [e.out]; rfl, rfl⟩
end Go.Proofs.Ytkchalaicmanfaa
