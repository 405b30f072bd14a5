/-
  Part 19 of the proof: 1 texts, one behind the other.
-/
import Derived.Test.YtdpfdlkaickkiaaPart8
import Derived.Test.YtdpfdlkaickkiaaPart18
import Derived.Deep.RegionHeld3
namespace Go.Proofs.Ytdpfdlkaickkiaa
open Go.RowKit
set_option linter.unusedSimpArgs false
set_option linter.unusedVariables false
attribute [local go_sem] Oper.semAt_some

structure RsAt (b : Int) (l : List Rn) (j : Nat) (r : Rn) : Prop where
  z : j = 0 → r.f = 0#128
  w : ¬ ((leadN r.f : Nat) : Int) < 128 - b
  p : ∀ p, 0 < j → l[j - 1]? = some p → cmpZ p.f r.f < 0 ∧ smR p r = false
def RsOk (b : Int) (l : List Rn) : Prop := l ≠ [] ∧ ∀ j r, l[j]? = some r → RsAt b l j r
theorem adj_of : ∀ (l : List Rn), (∀ (j : Nat) (p r : Rn), l[j]? = some p → l[j + 1]? = some r → cmpZ p.f r.f < 0 ∧ smR p r = false) → adjG l = true
  | [], _ => rfl
  | [a], _ => rfl
  | a :: b :: t, h => by
    have h0 := h 0 a b rfl rfl
    unfold adjG
    rw [adj_of (b :: t) (fun j p r h1 h2 => h (j + 1) p r h1 h2)]
    simp [h0.1, h0.2]
theorem of_adj : ∀ (l : List Rn), adjG l = true → ∀ (j : Nat) (p r : Rn), l[j]? = some p → l[j + 1]? = some r → cmpZ p.f r.f < 0 ∧ smR p r = false
  | [], _, j, p, r, h1, _ => by simp at h1
  | [a], _, j, p, r, h1, h2 => by simp at h2
  | a :: b :: t, h, j, p, r, h1, h2 => by
    unfold adjG at h
    simp at h
    cases j with
    | zero =>
      simp at h1 h2
      subst h1 h2
      exact ⟨h.1.1, h.1.2⟩
    | succ j => exact of_adj (b :: t) h.2 j p r (by simpa using h1) (by simpa using h2)
theorem rs_io {b : Int} {l : List Rn} (h0 : 0 ≤ b) (h1 : b ≤ 128) : RsOk b l ↔ ioB ⟨b, l⟩ = true := by
  constructor
  · rintro ⟨hne, h⟩
    have hp := List.length_pos_iff.mpr hne
    rw [io_one b l hne]
    have a1 := (h 0 _ (List.getElem?_eq_getElem hp)).z rfl
    have a2 := (h (l.length - 1) _ (List.getElem?_eq_getElem (by omega))).w
    rw [lead_wide _ _ h0 h1] at a2
    have a3 := adj_of l (fun j p r q1 q2 => (h (j + 1) r q2).p p (by omega) (by simpa using q1))
    simp only [Bool.and_eq_true, beq_iff_eq]
    exact ⟨a1, a3, by simpa using a2⟩
  · intro h
    have io := io_ok h
    refine ⟨io.ne, fun j r hj => ⟨fun e => ?_, ?_, fun p hj0 hp => ?_⟩⟩
    · subst e; exact io.z r hj
    · rw [lead_wide _ _ h0 h1]
      have := io.lt r (List.mem_of_getElem? hj)
      simp only [Decidable.not_not]
      apply BitVec.eq_of_toNat_eq
      rw [BitVec.toNat_ushiftRight, Nat.shiftRight_eq_div_pow]
      exact Nat.div_eq_of_lt this
    · rw [io_one b l io.ne] at h
      simp only [Bool.and_eq_true] at h
      exact of_adj l h.2.1 (j - 1) p r hp (by rw [Nat.sub_add_cancel hj0]; exact hj)
set_option maxRecDepth 100000 in
set_option maxHeartbeats 16000000 in
theorem rruns_any (b : Int) (v : Value) (l : List Rn) (w : World) (hv : RwN w v l) (hl : l.length ≤ 1000000) (h0 : 0 ≤ b) (h1 : b ≤ 128) :
    Calls Try.prog 34 #[.agg #[.int .i64 b, v]] w fun e w' => e = .returned (.bool (ioB ⟨b, l⟩)) ∧ Below w.heap.size w w' := by
  have HT := hid13 (rs_io (l := l) h0 h1)
  generalize ioB ⟨b, l⟩ = t at *
  obtain ⟨ao, c, rfl, hc, hrow⟩ := hv
  have HC := hid13 hrow
  have HD := hid13 (atd_new w b (.slice ao l.length c) 57)
  have HB := hid13 (bl1 w (.cells #[.int .i64 b, .slice ao l.length c] 57))
  have mb : IntKind.i64.wrap (128 - b) = 128 - b := by rw [IntKind.wrap_i64]; omega
  clear hrow
  go_enter Try.func34, Try.ntmps34
  go_wp2_with fail
  obtain ⟨W0, hW0⟩ : ∃ W0, W0 = w.alloc (.cells #[.int .i64 b, .slice ao l.length c] 57) := ⟨_, rfl⟩
  rw [← hW0] at HD HB ⊢
  clear hW0
  go_loopg [3] l.length (fun g kv wr => ∃ k : Nat, k + g = l.length ∧ kv = .int .i64 (k : Int) ∧ Hid (∀ j r, j < k → l[j]? = some r → RsAt b l j r) ∧ Hid (AtD wr w.heap.size b (.slice ao l.length c)) ∧ Hid (Below w.heap.size w wr))
  case atStart => exact ⟨0, by omega, rfl, (fun j r h => by omega), HD, HB⟩
  case round =>
    clear HD HB
    obtain ⟨k, hk, rfl, HR, HD, HB⟩ := hrel
    obtain ⟨a0, a1⟩ := HD.out
    by_cases hlt : (k : Int) < (l.length : Int)
    · have hks : k < l.length := by omega
      obtain ⟨rb, off, rfl, hcell⟩ := HC.out.resolve_left (by rintro rfl; simp at hks)
      obtain ⟨r, hr⟩ : ∃ r, l[k]? = some r := ⟨_, List.getElem?_eq_getElem hks⟩
      obtain ⟨r0, r1, r2, r3⟩ := hcell k r hr
      have r0 := keepc HB.out r0
      have r1 := keepc HB.out r1
      have r2 := keepc HB.out r2
      have r3 := keepc HB.out r3
      have q1 := bl1 wr (.cells #[.int .u64 (hI r.f), .int .u64 (lI r.f), .bool r.k, .int .i64 r.n] 54)
      obtain ⟨n0, n1, n2, n3⟩ := rnat_new wr r 54
      have HD1 := hid13 (HD.out.below q1)
      have HB1 := hid13 (keepb q1 HB.out)
      have HK : Hid (k + gk = l.length ∧ k < l.length) := ⟨hk, hks⟩
      clear hk
      have HF : Hid (¬ RsAt b l k r → t = false) := fun h => by
        cases ht : t with
        | false => rfl
        | true => exact absurd ((HT.out.mpr ht).2 k r hr) h
      have E0 := fun w => eqWz r.f w
      have KL := fun w => rlead_any r.f w
      obtain ⟨ld, hld⟩ : ∃ ld, ld = ((leadN r.f : Nat) : Int) := ⟨_, rfl⟩
      rw [← hld] at KL
      have HLd := hid13 hld
      have HA : Hid (∀ W, Below (wr.alloc (.cells #[.int .u64 (hI r.f), .int .u64 (lI r.f), .bool r.k, .int .i64 r.n] 54)).heap.size (wr.alloc (.cells #[.int .u64 (hI r.f), .int .u64 (lI r.f), .bool r.k, .int .i64 r.n] 54)) W → W.cell? ⟨w.heap.size, 0, none⟩ = some (.int .i64 b) ∧ W.cell? ⟨wr.heap.size, 0, none⟩ = some (.int .u64 (hI r.f)) ∧ W.cell? ⟨wr.heap.size, 1, none⟩ = some (.int .u64 (lI r.f)) ∧ Below (wr.alloc (.cells #[.int .u64 (hI r.f), .int .u64 (lI r.f), .bool r.k, .int .i64 r.n] 54)).heap.size (wr.alloc (.cells #[.int .u64 (hI r.f), .int .u64 (lI r.f), .bool r.k, .int .i64 r.n] 54)) W) := fun W h => ⟨keepc h HD1.out.1, keepc h n0, keepc h n1, h⟩
      have hbl := (Below.refl (wr.alloc (.cells #[.int .u64 (hI r.f), .int .u64 (lI r.f), .bool r.k, .int .i64 r.n] 54)).heap.size (wr.alloc (.cells #[.int .u64 (hI r.f), .int .u64 (lI r.f), .bool r.k, .int .i64 r.n] 54))).drew
      obtain ⟨m0, m1, m2, -⟩ := HA.out _ hbl
      clear hld hcell
      by_cases hz : k = 0 ∧ r.f ≠ 0#128
      · have ht := HF.out (fun h => hz.2 (h.z hz.1))
        obtain ⟨hz1, hz2⟩ := hz
        subst ht
        have ek : ((k : Int) == 0) = true := by simp [hz1]
        have ez : (r.f == 0#128) = false := by simpa using hz2
        simp only [ez] at E0
        have HB2 := hid13 (keepb hbl HB1.out)
        clear KL hz2 HA HF hz1
        go_wp2_with fail
        go_region
        go_wp2
        go_ret
        exact ⟨rfl, HB2.out⟩
      · by_cases hk0 : k = 0
        · have ez : (r.f == 0#128) = true := by simpa using fun h => hz ⟨hk0, h⟩
          simp only [ez] at E0
          have ek : ((k : Int) == 0) = true := by simp [hk0]
          have HZ : Hid (k = 0 ∧ r.f = 0#128) := ⟨hk0, by simpa using ez⟩
          clear hz hk0
          by_cases hw : ld < 128 - b
          · have ht := HF.out (fun h => h.w (by rw [← HLd.out]; exact hw))
            subst ht
            clear HF
            go_wp2_with fail
            go_region_held3 (fun w' => w'.cell? ⟨w.heap.size, 0, none⟩ = some (.int .i64 b) ∧ w'.cell? ⟨wr.heap.size, 0, none⟩ = some (.int .u64 (hI r.f)) ∧ w'.cell? ⟨wr.heap.size, 1, none⟩ = some (.int .u64 (lI r.f)) ∧ Below (wr.alloc (.cells #[.int .u64 (hI r.f), .int .u64 (lI r.f), .bool r.k, .int .i64 r.n] 54)).heap.size (wr.alloc (.cells #[.int .u64 (hI r.f), .int .u64 (lI r.f), .bool r.k, .int .i64 r.n] 54)) w')
              (first
                | exact HA.out _ hbl
                | (obtain ⟨-, -, -, k9⟩ := ‹_ ∧ _ ∧ _ ∧ Below _ _ _›; exact HA.out _ (keepb hb0 k9))
                | (obtain ⟨-, -, -, k9⟩ := ‹_ ∧ _ ∧ _ ∧ Below _ _ _›; exact HA.out _ k9))
              (first | (go_at_call 53; refine (KL _).mono ?_; rintro e w0 ⟨rfl, hb0⟩))
            obtain ⟨-, -, -, k9⟩ := ‹_ ∧ _ ∧ _ ∧ Below _ _ _›
            have HB2 := hid13 (keepb k9 HB1.out)
            clear k9 hb0 KL HA
            go_wp2
            go_ret
            exact ⟨rfl, HB2.out⟩
          · have HR2 : Hid (∀ j r, j < k + 1 → l[j]? = some r → RsAt b l j r) := fun j r' hj h => by
              have e0 := HZ.out.1
              have : j = k := by omega
              subst this
              rw [hr] at h
              injection h with h
              subst h
              exact ⟨fun _ => HZ.out.2, by rw [← HLd.out]; exact hw, fun p h => by omega⟩
            clear HF
            go_wp2_with fail
            go_region_held3 (fun w' => w'.cell? ⟨w.heap.size, 0, none⟩ = some (.int .i64 b) ∧ w'.cell? ⟨wr.heap.size, 0, none⟩ = some (.int .u64 (hI r.f)) ∧ w'.cell? ⟨wr.heap.size, 1, none⟩ = some (.int .u64 (lI r.f)) ∧ Below (wr.alloc (.cells #[.int .u64 (hI r.f), .int .u64 (lI r.f), .bool r.k, .int .i64 r.n] 54)).heap.size (wr.alloc (.cells #[.int .u64 (hI r.f), .int .u64 (lI r.f), .bool r.k, .int .i64 r.n] 54)) w')
              (first
                | exact HA.out _ hbl
                | (obtain ⟨-, -, -, k9⟩ := ‹_ ∧ _ ∧ _ ∧ Below _ _ _›; exact HA.out _ (keepb hb0 k9))
                | (obtain ⟨-, -, -, k9⟩ := ‹_ ∧ _ ∧ _ ∧ Below _ _ _›; exact HA.out _ k9))
              (first | (go_at_call 53; refine (KL _).mono ?_; rintro e w0 ⟨rfl, hb0⟩))
            obtain ⟨-, -, -, k9⟩ := ‹_ ∧ _ ∧ _ ∧ Below _ _ _›
            have HB2 := hid13 (keepb k9 HB1.out)
            have HD2 := hid13 (HD1.out.below k9)
            have hk00 := HZ.out.1
            clear k9 hb0 KL HA r0 r1 r2 r3 ek E0 HZ
            subst hk00
            go_wp2
            go_roundg (gk - 1)
            case measure => have := HK.out; omega
            case rel => exact ⟨1, by have := HK.out; omega, rfl, HR2, HD2, HB2⟩
        · have ek : ((k : Int) == 0) = false := by simp [hk0]
          have HK1 := hid13 hk0
          by_cases hw : ld < 128 - b
          · have ht := HF.out (fun h => h.w (by rw [← HLd.out]; exact hw))
            subst ht
            clear HF hz hk0
            go_wp2_with fail
            refine qw_region (C := fun W => Below (wr.alloc (.cells #[.int .u64 (hI r.f), .int .u64 (lI r.f), .bool r.k, .int .i64 r.n] 54)).heap.size (wr.alloc (.cells #[.int .u64 (hI r.f), .int .u64 (lI r.f), .bool r.k, .int .i64 r.n] 54)) W) (by kernel_rfl) (by kernel_rfl) hbl ?_
            refine qw_run (v := .int .i64 (k : Int)) (by rfl) ?_ ?_
            · (intro w9 hC; obtain ⟨c0, c1, c2, -⟩ := HA.out _ hC; clear hC; go_simp; first | done | (simp; done) | (simp [*]; done) | omega | (simp; omega) | (rw [IntKind.wrap_i64]; omega) | rfl)
            simp only [Act.put, List.setIfInBounds_toArray, List.set_cons_zero, List.set_cons_succ]
            refine qw_run (v := .bool false) (by rfl) ?_ ?_
            · (intro w9 hC; obtain ⟨c0, c1, c2, -⟩ := HA.out _ hC; clear hC; go_simp; first | done | (simp; done) | (simp [*]; done) | omega | (simp; omega) | (rw [IntKind.wrap_i64]; omega) | rfl)
            simp only [Act.put, List.setIfInBounds_toArray, List.set_cons_zero, List.set_cons_succ]
            refine qw_run (v := .bool false) (by rfl) ?_ ?_
            · (intro w9 hC; obtain ⟨c0, c1, c2, -⟩ := HA.out _ hC; clear hC; go_simp; first | done | (simp; done) | (simp [*]; done) | omega | (simp; omega) | (rw [IntKind.wrap_i64]; omega) | rfl)
            simp only [Act.put, List.setIfInBounds_toArray, List.set_cons_zero, List.set_cons_succ]
            refine qw_skip (by rfl) ?_
            simp only [Act.put, List.setIfInBounds_toArray, List.set_cons_zero, List.set_cons_succ]
            refine qw_skip (by rfl) ?_
            simp only [Act.put, List.setIfInBounds_toArray, List.set_cons_zero, List.set_cons_succ]
            refine qw_skip (by rfl) ?_
            simp only [Act.put, List.setIfInBounds_toArray, List.set_cons_zero, List.set_cons_succ]
            refine qw_skip (by rfl) ?_
            simp only [Act.put, List.setIfInBounds_toArray, List.set_cons_zero, List.set_cons_succ]
            refine qw_run (v := .bool false) (by rfl) ?_ ?_
            · (intro w9 hC; obtain ⟨c0, c1, c2, -⟩ := HA.out _ hC; clear hC; go_simp; first | done | (simp; done) | (simp [*]; done) | omega | (simp; omega) | (rw [IntKind.wrap_i64]; omega) | rfl)
            simp only [Act.put, List.setIfInBounds_toArray, List.set_cons_zero, List.set_cons_succ]
            refine qw_run (v := .bool false) (by rfl) ?_ ?_
            · (intro w9 hC; obtain ⟨c0, c1, c2, -⟩ := HA.out _ hC; clear hC; go_simp; first | done | (simp; done) | (simp [*]; done) | omega | (simp; omega) | (rw [IntKind.wrap_i64]; omega) | rfl)
            simp only [Act.put, List.setIfInBounds_toArray, List.set_cons_zero, List.set_cons_succ]
            refine qw_run (v := .pointer (some ⟨wr.heap.size, 0, none⟩)) (by rfl) ?_ ?_
            · (intro w9 hC; obtain ⟨c0, c1, c2, -⟩ := HA.out _ hC; clear hC; go_simp; first | done | (simp; done) | (simp [*]; done) | omega | (simp; omega) | (rw [IntKind.wrap_i64]; omega) | rfl)
            simp only [Act.put, List.setIfInBounds_toArray, List.set_cons_zero, List.set_cons_succ]
            refine qw_run (v := .agg #[.int .u64 (hI r.f), .int .u64 (lI r.f)]) (by rfl) ?_ ?_
            · (intro w9 hC; obtain ⟨c0, c1, c2, -⟩ := HA.out _ hC; clear hC; go_simp; first | done | (simp; done) | (simp [*]; done) | omega | (simp; omega) | (rw [IntKind.wrap_i64]; omega) | rfl)
            simp only [Act.put, List.setIfInBounds_toArray, List.set_cons_zero, List.set_cons_succ]
            refine qw_call (v := .int .i64 ld) (f := 53) (args := #[.agg #[.int .u64 (hI r.f), .int .u64 (lI r.f)]]) (by rfl) ?_ ?_ ?_
            · (intro w9 hC; clear hC; go_simp; first | done | (simp; done) | rfl)
            · exact fun w9 hC => (KL w9).mono fun e w' h => ⟨h.1, keepb h.2 hC⟩
            simp only [Act.put, List.setIfInBounds_toArray, List.set_cons_zero, List.set_cons_succ]
            refine qw_run (v := .pointer (some ⟨w.heap.size, 0, none⟩)) (by rfl) ?_ ?_
            · (intro w9 hC; obtain ⟨c0, c1, c2, -⟩ := HA.out _ hC; clear hC; go_simp; first | done | (simp; done) | (simp [*]; done) | omega | (simp; omega) | (rw [IntKind.wrap_i64]; omega) | rfl)
            simp only [Act.put, List.setIfInBounds_toArray, List.set_cons_zero, List.set_cons_succ]
            refine qw_run (v := .int .i64 b) (by rfl) ?_ ?_
            · (intro w9 hC; obtain ⟨c0, c1, c2, -⟩ := HA.out _ hC; clear hC; go_simp; first | done | (simp; done) | (simp [*]; done) | omega | (simp; omega) | (rw [IntKind.wrap_i64]; omega) | rfl)
            simp only [Act.put, List.setIfInBounds_toArray, List.set_cons_zero, List.set_cons_succ]
            refine qw_run (v := .int .i64 (128 - b)) (by rfl) ?_ ?_
            · (intro w9 hC; obtain ⟨c0, c1, c2, -⟩ := HA.out _ hC; clear hC; go_simp; first | done | (simp; done) | (simp [*]; done) | omega | (simp; omega) | (rw [IntKind.wrap_i64]; omega) | rfl)
            simp only [Act.put, List.setIfInBounds_toArray, List.set_cons_zero, List.set_cons_succ]
            refine qw_run (v := .bool true) (by rfl) ?_ ?_
            · (intro w9 hC; obtain ⟨c0, c1, c2, -⟩ := HA.out _ hC; clear hC; go_simp; first | done | (simp; done) | (simp [*]; done) | omega | (simp; omega) | (rw [IntKind.wrap_i64]; omega) | rfl)
            simp only [Act.put, List.setIfInBounds_toArray, List.set_cons_zero, List.set_cons_succ]
            refine qw_run (v := .bool true) (by rfl) ?_ ?_
            · (intro w9 hC; obtain ⟨c0, c1, c2, -⟩ := HA.out _ hC; clear hC; go_simp; first | done | (simp; done) | (simp [*]; done) | omega | (simp; omega) | (rw [IntKind.wrap_i64]; omega) | rfl)
            simp only [Act.put, List.setIfInBounds_toArray, List.set_cons_zero, List.set_cons_succ]
            refine qw_nil ?_
            intro w0 k9
            have HB2 := hid13 (keepb k9 HB1.out)
            clear k9 KL HA
            go_wp2
            go_ret
            exact ⟨rfl, HB2.out⟩
          · obtain ⟨k', hk'⟩ : ∃ k', k' + 1 = k := ⟨k - 1, by omega⟩
            have kg : 0 < k := by omega
            have hkl : k' < l.length := by omega
            have ki : (k' : Int) < (l.length : Int) := by omega
            have mk1 : IntKind.i64.wrap ((k : Int) - 1) = (k' : Int) := by rw [IntKind.wrap_i64]; omega
            have mk : IntKind.i64.wrap ((k : Int) + 1) = (k : Int) + 1 := by rw [IntKind.wrap_i64]; omega
            obtain ⟨p, hp⟩ : ∃ p, l[k']? = some p := ⟨_, List.getElem?_eq_getElem hkl⟩
            have HP : Hid (l[k - 1]? = some p) := by show _ = _; rw [← hp]; congr 1; omega
            obtain ⟨rb', off', e9, hcell⟩ := HC.out.resolve_left (by rintro rfl; simp at hks)
            injection e9 with e9
            injection e9 with e91 e92
            subst e91 e92
            have HPc := hid13 (hcell k' p hp)
            have KC := fun w => rcmp_any p.f r.f w
            obtain ⟨cz, hcz⟩ : ∃ cz, cz = cmpZ p.f r.f := ⟨_, rfl⟩
            rw [← hcz] at KC
            have HCz := hid13 hcz
            have HN : Hid (RnAt (wr.alloc (.cells #[.int .u64 (hI r.f), .int .u64 (lI r.f), .bool r.k, .int .i64 r.n] 54)) wr.heap.size 0 r) := rnat_new wr r 54
            clear hz hk0 hcell hk' hp hcz hkl n0 n1 n2 n3
            go_wp2_with fail
            refine qw_region (C := fun W => Below (wr.alloc (.cells #[.int .u64 (hI r.f), .int .u64 (lI r.f), .bool r.k, .int .i64 r.n] 54)).heap.size (wr.alloc (.cells #[.int .u64 (hI r.f), .int .u64 (lI r.f), .bool r.k, .int .i64 r.n] 54)) W) (by kernel_rfl) (by kernel_rfl) hbl ?_
            refine qw_run (v := .int .i64 (k : Int)) (by rfl) ?_ ?_
            · (intro w9 hC; obtain ⟨c0, c1, c2, -⟩ := HA.out _ hC; clear hC; go_simp; first | done | (simp; done) | (simp [*]; done) | omega | (simp; omega) | (rw [IntKind.wrap_i64]; omega) | rfl)
            simp only [Act.put, List.setIfInBounds_toArray, List.set_cons_zero, List.set_cons_succ]
            refine qw_run (v := .bool false) (by rfl) ?_ ?_
            · (intro w9 hC; obtain ⟨c0, c1, c2, -⟩ := HA.out _ hC; clear hC; go_simp; first | done | (simp; done) | (simp [*]; done) | omega | (simp; omega) | (rw [IntKind.wrap_i64]; omega) | rfl)
            simp only [Act.put, List.setIfInBounds_toArray, List.set_cons_zero, List.set_cons_succ]
            refine qw_run (v := .bool false) (by rfl) ?_ ?_
            · (intro w9 hC; obtain ⟨c0, c1, c2, -⟩ := HA.out _ hC; clear hC; go_simp; first | done | (simp; done) | (simp [*]; done) | omega | (simp; omega) | (rw [IntKind.wrap_i64]; omega) | rfl)
            simp only [Act.put, List.setIfInBounds_toArray, List.set_cons_zero, List.set_cons_succ]
            refine qw_skip (by rfl) ?_
            simp only [Act.put, List.setIfInBounds_toArray, List.set_cons_zero, List.set_cons_succ]
            refine qw_skip (by rfl) ?_
            simp only [Act.put, List.setIfInBounds_toArray, List.set_cons_zero, List.set_cons_succ]
            refine qw_skip (by rfl) ?_
            simp only [Act.put, List.setIfInBounds_toArray, List.set_cons_zero, List.set_cons_succ]
            refine qw_skip (by rfl) ?_
            simp only [Act.put, List.setIfInBounds_toArray, List.set_cons_zero, List.set_cons_succ]
            refine qw_run (v := .bool false) (by rfl) ?_ ?_
            · (intro w9 hC; obtain ⟨c0, c1, c2, -⟩ := HA.out _ hC; clear hC; go_simp; first | done | (simp; done) | (simp [*]; done) | omega | (simp; omega) | (rw [IntKind.wrap_i64]; omega) | rfl)
            simp only [Act.put, List.setIfInBounds_toArray, List.set_cons_zero, List.set_cons_succ]
            refine qw_run (v := .bool false) (by rfl) ?_ ?_
            · (intro w9 hC; obtain ⟨c0, c1, c2, -⟩ := HA.out _ hC; clear hC; go_simp; first | done | (simp; done) | (simp [*]; done) | omega | (simp; omega) | (rw [IntKind.wrap_i64]; omega) | rfl)
            simp only [Act.put, List.setIfInBounds_toArray, List.set_cons_zero, List.set_cons_succ]
            refine qw_run (v := .pointer (some ⟨wr.heap.size, 0, none⟩)) (by rfl) ?_ ?_
            · (intro w9 hC; obtain ⟨c0, c1, c2, -⟩ := HA.out _ hC; clear hC; go_simp; first | done | (simp; done) | (simp [*]; done) | omega | (simp; omega) | (rw [IntKind.wrap_i64]; omega) | rfl)
            simp only [Act.put, List.setIfInBounds_toArray, List.set_cons_zero, List.set_cons_succ]
            refine qw_run (v := .agg #[.int .u64 (hI r.f), .int .u64 (lI r.f)]) (by rfl) ?_ ?_
            · (intro w9 hC; obtain ⟨c0, c1, c2, -⟩ := HA.out _ hC; clear hC; go_simp; first | done | (simp; done) | (simp [*]; done) | omega | (simp; omega) | (rw [IntKind.wrap_i64]; omega) | rfl)
            simp only [Act.put, List.setIfInBounds_toArray, List.set_cons_zero, List.set_cons_succ]
            refine qw_call (v := .int .i64 ld) (f := 53) (args := #[.agg #[.int .u64 (hI r.f), .int .u64 (lI r.f)]]) (by rfl) ?_ ?_ ?_
            · (intro w9 hC; clear hC; go_simp; first | done | (simp; done) | rfl)
            · exact fun w9 hC => (KL w9).mono fun e w' h => ⟨h.1, keepb h.2 hC⟩
            simp only [Act.put, List.setIfInBounds_toArray, List.set_cons_zero, List.set_cons_succ]
            refine qw_run (v := .pointer (some ⟨w.heap.size, 0, none⟩)) (by rfl) ?_ ?_
            · (intro w9 hC; obtain ⟨c0, c1, c2, -⟩ := HA.out _ hC; clear hC; go_simp; first | done | (simp; done) | (simp [*]; done) | omega | (simp; omega) | (rw [IntKind.wrap_i64]; omega) | rfl)
            simp only [Act.put, List.setIfInBounds_toArray, List.set_cons_zero, List.set_cons_succ]
            refine qw_run (v := .int .i64 b) (by rfl) ?_ ?_
            · (intro w9 hC; obtain ⟨c0, c1, c2, -⟩ := HA.out _ hC; clear hC; go_simp; first | done | (simp; done) | (simp [*]; done) | omega | (simp; omega) | (rw [IntKind.wrap_i64]; omega) | rfl)
            simp only [Act.put, List.setIfInBounds_toArray, List.set_cons_zero, List.set_cons_succ]
            refine qw_run (v := .int .i64 (128 - b)) (by rfl) ?_ ?_
            · (intro w9 hC; obtain ⟨c0, c1, c2, -⟩ := HA.out _ hC; clear hC; go_simp; first | done | (simp; done) | (simp [*]; done) | omega | (simp; omega) | (rw [IntKind.wrap_i64]; omega) | rfl)
            simp only [Act.put, List.setIfInBounds_toArray, List.set_cons_zero, List.set_cons_succ]
            refine qw_run (v := .bool false) (by rfl) ?_ ?_
            · (intro w9 hC; obtain ⟨c0, c1, c2, -⟩ := HA.out _ hC; clear hC; go_simp; first | done | (simp; done) | (simp [*]; done) | omega | (simp; omega) | (rw [IntKind.wrap_i64]; omega) | rfl)
            simp only [Act.put, List.setIfInBounds_toArray, List.set_cons_zero, List.set_cons_succ]
            refine qw_run (v := .bool false) (by rfl) ?_ ?_
            · (intro w9 hC; obtain ⟨c0, c1, c2, -⟩ := HA.out _ hC; clear hC; go_simp; first | done | (simp; done) | (simp [*]; done) | omega | (simp; omega) | (rw [IntKind.wrap_i64]; omega) | rfl)
            simp only [Act.put, List.setIfInBounds_toArray, List.set_cons_zero, List.set_cons_succ]
            refine qw_nil ?_
            intro w0 k9
            have HB2 := hid13 (keepb k9 HB1.out)
            have HD2 := hid13 (HD1.out.below k9)
            have HN2 := hid13 (HN.out.below k9)
            obtain ⟨d0, d1⟩ := HD2.out
            obtain ⟨s0, s1, s2, s3⟩ := HN2.out
            obtain ⟨p0, p1, p2, p3⟩ := HPc.out.below HB2.out
            have q3 := bl1 w0 (.cells #[.int .u64 (hI p.f), .int .u64 (lI p.f), .bool p.k, .int .i64 p.n] 54)
            have HQ := hid13 (rnat_new w0 p 54)
            have HN3 := hid13 (HN2.out.below q3)
            have HD3 := hid13 (HD2.out.below q3)
            have HB3 := hid13 (keepb q3 HB2.out)
            obtain ⟨v0, v1, v2, v3⟩ := HN3.out
            obtain ⟨y0, y1, y2, y3⟩ := HQ.out
            clear k9 KL HA q3 r0 r1 r2 r3 m0 m1 m2 a0 a1 E0
            go_wp2_with fail
            refine (KC _).mono ?_
            rintro e w5 ⟨rfl, hb5⟩
            have HB5 := hid13 (keepb hb5 HB3.out)
            have HD5 := hid13 (HD3.out.below hb5)
            obtain ⟨z0, z1, z2, z3⟩ := HN3.out.below hb5
            obtain ⟨x0, x1, x2, x3⟩ := HQ.out.below hb5
            clear KC hb5 d0 d1 s0 s1 s2 s3 p0 p1 p2 p3 v0 v1 v2 v3 y0 y1 y2 y3
            by_cases hcz : 0 ≤ cz
            · have ht := HF.out (fun h => by have := (h.p p kg HP.out).1; rw [← HCz.out] at this; omega)
              subst ht
              clear HF
              go_wp2
              go_ret
              exact ⟨rfl, HB5.out⟩
            · by_cases hkk : p.k = r.k
              · by_cases hnn : p.n = r.n
                · have ht := HF.out (fun h => by have := (h.p p kg HP.out).2; unfold smR at this; simp [hkk, hnn] at this)
                  subst ht
                  clear HF
                  go_wp2
                  go_ret
                  exact ⟨rfl, HB5.out⟩
                · clear HF
                  have HR2 : Hid (∀ j r, j < k + 1 → l[j]? = some r → RsAt b l j r) := fun j r' hj h => by
                    by_cases hjk : j < k
                    · exact HR.out j r' hjk h
                    · have : j = k := by omega
                      subst this
                      rw [hr] at h
                      injection h with h
                      subst h
                      refine ⟨fun h => absurd h HK1.out, by rw [← HLd.out]; omega, fun p' _ hp' => ?_⟩
                      rw [HP.out] at hp'
                      injection hp' with hp'
                      subst hp'
                      exact ⟨by rw [← HCz.out]; omega, by unfold smR; simp [hnn]⟩
                  have hnb : (p.n == r.n) = false := by simpa using hnn
                  clear hnn
                  go_wp2
                  go_roundg (gk - 1)
                  case measure => have := HK.out; omega
                  case rel => exact ⟨k + 1, by have := HK.out; omega, rfl, HR2, HD5, HB5⟩
              · clear HF
                have HR2 : Hid (∀ j r, j < k + 1 → l[j]? = some r → RsAt b l j r) := fun j r' hj h => by
                  by_cases hjk : j < k
                  · exact HR.out j r' hjk h
                  · have : j = k := by omega
                    subst this
                    rw [hr] at h
                    injection h with h
                    subst h
                    refine ⟨fun h => absurd h HK1.out, by rw [← HLd.out]; omega, fun p' _ hp' => ?_⟩
                    rw [HP.out] at hp'
                    injection hp' with hp'
                    subst hp'
                    exact ⟨by rw [← HCz.out]; omega, by unfold smR; simp [hkk]⟩
                go_wp2
                go_roundg (gk - 1)
                case measure => have := HK.out; omega
                case rel => exact ⟨k + 1, by have := HK.out; omega, rfl, HR2, HD5, HB5⟩
    · have hke : k = l.length := by omega
      subst hke
      have HOk : Hid (0 < l.length → RsOk b l) := fun h => ⟨by rintro rfl; simp at h, fun j r hj => HR.out j r (List.getElem?_eq_some_iff.mp hj).1 hj⟩
      by_cases hl0 : (0 : Int) < (l.length : Int)
      · have ht : t = true := HT.out.mp (HOk.out (by omega))
        subst ht
        have hln : 0 < l.length := by omega
        have hlt2 : ¬ (l.length : Int) < (l.length : Int) := by omega
        clear HC
        go_wp2
        go_ret
        exact ⟨by simp [hln], HB.out⟩
      · have ht : t = false := by
          cases ht : t with
          | false => rfl
          | true =>
            have := List.length_pos_iff.mpr (HT.out.mpr ht).1
            omega
        subst ht
        have hln : ¬ 0 < l.length := by omega
        clear HC
        go_wp2
        go_ret
        exact ⟨by simp [hln], HB.out⟩
end Go.Proofs.Ytdpfdlkaickkiaa
