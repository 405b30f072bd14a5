/-
  Part 3 of the proof: 9 texts, one behind the other.
-/
import Derived.Test.YtpiicdpipjjenaaGreatDoorPart2
import Derived.Test.YtpiicdpipjjenaaGreatDoorPart1
import Derived.Deep.RegionHeld3
import Derived.Deep.QuietTactic
import Derived.BigQuiet
namespace Go.Proofs.YtpiicdpipjjenaaGreatDoor
open Go.RowKit
set_option linter.unusedSimpArgs false
set_option linter.unusedVariables false

set_option maxHeartbeats 1000000 in
set_option maxRecDepth 20000 in
theorem rdec_any (n : Nat) (w : World) (h : n < 1000000000000000000) :
    Calls Tryz.prog 19 #[.int .i64 n] w fun e w' => e = .returned (.string ⟨(decL n).toArray⟩) ∧ Below w.heap.size w w' := by
  have hn0 : ¬ (n : Int) < 0 := by omega
  go_enter Tryz.func19, Tryz.ntmps19
  go_wp2
  go_loopw [0, 3] (fun a b wr => ∃ (f m : Nat) (t : List UInt8) (S : ByteArray), a = .int .i64 m ∧ b = .string S ∧ Hid (S = ⟨t.toArray⟩) ∧ S.size ≤ 20 ∧ Hid (decF f m t = decL n) ∧ Hid (m < 10 ^ f ∧ (t = [] → 1 ≤ f) ∧ t.length + f ≤ 20) ∧ m < 1000000000000000000 ∧ Below w.heap.size w wr) (fun a b _ => (intOf a).toNat * 2 + sizeOf0 b)
  case atStart => exact ⟨20, n, [], ⟨#[]⟩, rfl, rfl, rfl, by decide, rfl, ⟨by omega, by omega, by decide⟩, h, Below.refl _ _⟩
  case round =>
    obtain ⟨f, m, t, S, rfl, rfl, HE, hS, HF, HB, hm, hB⟩ := hrel
    by_cases hz : m = 0 ∧ ¬ t = []
    · have HX : Hid (decL n = t) := by show _ = _; rw [← HF.out, decF_zero f m t hz]
      obtain ⟨rfl, hne⟩ := hz
      have he : S.toList.isEmpty = false := by
        rw [isEmpty_of t S HE.out]
        cases t with
        | nil => exact absurd rfl hne
        | cons a l => rfl
      clear HF HB
      go_wp2
      refine bodyPost_ret (v := .string S) (by simp [results, Tryz.results19, go_sem]) rfl ⟨?_, hB⟩
      rw [HX.out, ← HE.out]
    · obtain ⟨g, rfl⟩ : ∃ g, f = g + 1 := ⟨f - 1, by
        by_cases h0 : m = 0
        · have : t = [] := by
            apply Classical.byContradiction; intro q; exact hz ⟨h0, q⟩
          have := HB.out.2.1 this
          omega
        · have := HB.out.1
          cases f with
          | zero => simp at this; omega
          | succ f => omega⟩
      have HX : Hid (decF g (m / 10) (UInt8.ofNat (48 + m % 10) :: t) = decL n) := by
        show _ = _
        rw [← HF.out]; exact (if_neg hz).symm
      have HB2 : Hid (m / 10 < 10 ^ g ∧ (UInt8.ofNat (48 + m % 10) :: t = [] → 1 ≤ g) ∧ (UInt8.ofNat (48 + m % 10) :: t).length + g ≤ 20) := by
        refine ⟨?_, fun q => by simp at q, ?_⟩
        · have := HB.out.1
          rw [Nat.pow_succ] at this
          omega
        · have := HB.out.2.2
          simp only [List.length_cons]; omega
      have hv := one_conv wr (48 + m % 10) (by omega)
      have hd : ((48 + m % 10 : Nat) : Int) = 48 + (m : Int) % 10 := by omega
      rw [hd] at hv
      have hq : ((m / 10 : Nat) : Int) = (m : Int) / 10 := by omega
      obtain ⟨D, HD⟩ : ∃ D : ByteArray, Hid (D = ⟨#[UInt8.ofNat (48 + m % 10)]⟩) := ⟨_, rfl⟩
      rw [← HD.out] at hv
      have hD : D.size = 1 := by rw [HD.out]; rfl
      have HDS : Hid (D ++ S = ⟨(UInt8.ofNat (48 + m % 10) :: t).toArray⟩) := by
        show _ = _
        rw [HD.out, HE.out, cat_one]
      have hDS : (D ++ S).size ≤ 20 := by
        rw [HDS.out]
        have := HB2.out.2.2
        show (UInt8.ofNat (48 + m % 10) :: t).length ≤ 20
        omega
      have HM : Hid ((m / 10) * 2 + sizeOf0 (.string (D ++ S)) < m * 2 + sizeOf0 (.string S)) := by
        have e1 : sizeOf0 (.string (D ++ S)) = 0 := by
          unfold sizeOf0
          rw [HDS.out]; rfl
        show _ < _
        rw [e1]
        by_cases h0 : m = 0
        · have : t = [] := by
            apply Classical.byContradiction; intro q; exact hz ⟨h0, q⟩
          rw [HE.out, this, h0]; decide
        · omega
      have hlen : ¬ 9223372036854775807 < D.size + S.size := by omega
      have HEm : Hid (m = 0 → S.toList.isEmpty = true) := fun h0 => by
        have : t = [] := by
          apply Classical.byContradiction; intro q; exact hz ⟨h0, q⟩
        rw [isEmpty_of t S HE.out, this]; rfl
      clear HF HB HE HD hz
      by_cases h0 : m = 0
      · have he := HEm.out h0
        subst h0
        have hv0 : (convert 53 9 (.slice (some ⟨wr.heap.size, 0, none⟩) 1 1)).run Tryz.prog (wr.alloc (.cells #[.int .u8 48] 5)) = .ok (.string D) (wr.alloc (.cells #[.int .u8 48] 5)) := hv
        clear HEm hv hd hq
        go_wp2
        go_roundw
        case rel => exact ⟨g, 0, _, D ++ S, rfl, rfl, HDS, hDS, HX, HB2, by omega, hB.alloc hB.size _⟩
        case measure => exact HM.out
      · have h1 : (0 : Int) < m := by omega
        clear HEm h0
        go_wp2
        go_roundw
        case rel => exact ⟨g, m / 10, _, D ++ S, by rw [hq], rfl, HDS, hDS, HX, HB2, by omega, hB.alloc hB.size _⟩
        case measure =>
          have := HM.out
          rw [show intOf (Value.int IntKind.i64 ((m : Int) / 10)) = ((m / 10 : Nat) : Int) by rw [hq]; rfl]
          exact this

def hexD (d : Nat) : UInt8 := if d < 10 then UInt8.ofNat (48 + d) else UInt8.ofNat (87 + d)
theorem hexD_cut (d : Nat) (h : d < 16) : (⟨#[48, 49, 50, 51, 52, 53, 54, 55, 56, 57, 97, 98, 99, 100, 101, 102]⟩ : ByteArray).extract d (d + 1) = ⟨#[hexD d]⟩ := by
  have key : ∀ d, d < 16 → (⟨#[48, 49, 50, 51, 52, 53, 54, 55, 56, 57, 97, 98, 99, 100, 101, 102]⟩ : ByteArray).extract d (d + 1) = ⟨#[hexD d]⟩ := by decide +kernel
  exact key d h
def hexF : Nat → Nat → List UInt8 → List UInt8
  | 0, _, t => t
  | f + 1, m, t => if m = 0 ∧ ¬ t = [] then t else hexF f (m / 16) (hexD (m % 16) :: t)
def hexL (n : Nat) : List UInt8 := hexF 20 n []
theorem hexF_zero (f m : Nat) (t : List UInt8) (h : m = 0 ∧ ¬ t = []) : hexF f m t = t := by
  cases f with
  | zero => rfl
  | succ f => exact if_pos h

set_option maxHeartbeats 1000000 in
theorem rhex_any (n : Nat) (w : World) (h : n < 1000000000000000000) :
    Calls Tryz.prog 56 #[.int .i64 n] w fun e w' => e = .returned (.string ⟨(hexL n).toArray⟩) ∧ Below w.heap.size w w' := by
  go_enter Tryz.func56, Tryz.ntmps56
  go_wp2
  go_loopw [0, 3] (fun a b wr => ∃ (f m : Nat) (t : List UInt8) (S : ByteArray), a = .int .i64 m ∧ b = .string S ∧ Hid (S = ⟨t.toArray⟩) ∧ S.size ≤ 20 ∧ Hid (hexF f m t = hexL n) ∧ Hid (m < 16 ^ f ∧ (t = [] → 1 ≤ f) ∧ t.length + f ≤ 20) ∧ m < 1000000000000000000 ∧ Below w.heap.size w wr) (fun a b _ => (intOf a).toNat * 2 + sizeOf0 b)
  case atStart => exact ⟨20, n, [], ⟨#[]⟩, rfl, rfl, rfl, by decide, rfl, ⟨by omega, by omega, by decide⟩, h, Below.refl _ _⟩
  case round =>
    obtain ⟨f, m, t, S, rfl, rfl, HE, hS, HF, HB, hm, hB⟩ := hrel
    by_cases hz : m = 0 ∧ ¬ t = []
    · have HX : Hid (hexL n = t) := by show _ = _; rw [← HF.out, hexF_zero f m t hz]
      obtain ⟨rfl, hne⟩ := hz
      have he : S.toList.isEmpty = false := by
        rw [isEmpty_of t S HE.out]
        cases t with
        | nil => exact absurd rfl hne
        | cons a l => rfl
      clear HF HB
      go_wp2
      refine bodyPost_ret (v := .string S) (by simp [results, Tryz.results56, go_sem]) rfl ⟨?_, hB⟩
      rw [HX.out, ← HE.out]
    · obtain ⟨g, rfl⟩ : ∃ g, f = g + 1 := ⟨f - 1, by
        by_cases h0 : m = 0
        · have : t = [] := by
            apply Classical.byContradiction; intro q; exact hz ⟨h0, q⟩
          have := HB.out.2.1 this
          omega
        · have := HB.out.1
          cases f with
          | zero => simp at this; omega
          | succ f => omega⟩
      have HX : Hid (hexF g (m / 16) (hexD (m % 16) :: t) = hexL n) := by
        show _ = _
        rw [← HF.out]; exact (if_neg hz).symm
      have HB2 : Hid (m / 16 < 16 ^ g ∧ (hexD (m % 16) :: t = [] → 1 ≤ g) ∧ (hexD (m % 16) :: t).length + g ≤ 20) := by
        refine ⟨?_, fun q => by simp at q, ?_⟩
        · have := HB.out.1
          rw [Nat.pow_succ] at this
          omega
        · have := HB.out.2.2
          simp only [List.length_cons]; omega
      have hm16 : m % 16 < 16 := by omega
      have hv : (⟨#[48, 49, 50, 51, 52, 53, 54, 55, 56, 57, 97, 98, 99, 100, 101, 102]⟩ : ByteArray).extract (m % 16) (m % 16 + 1) = ⟨#[hexD (m % 16)]⟩ := hexD_cut (m % 16) hm16
      have hq : ((m / 16 : Nat) : Int) = (m : Int) / 16 := by omega
      obtain ⟨D, HD⟩ : ∃ D : ByteArray, Hid (D = ⟨#[hexD (m % 16)]⟩) := ⟨_, rfl⟩
      rw [← HD.out] at hv
      have hD : D.size = 1 := by rw [HD.out]; rfl
      have HDS : Hid (D ++ S = ⟨(hexD (m % 16) :: t).toArray⟩) := by
        show _ = _
        rw [HD.out, HE.out, cat_one]
      have hDS : (D ++ S).size ≤ 20 := by
        rw [HDS.out]
        have := HB2.out.2.2
        show (hexD (m % 16) :: t).length ≤ 20
        omega
      have HM : Hid ((m / 16) * 2 + sizeOf0 (.string (D ++ S)) < m * 2 + sizeOf0 (.string S)) := by
        have e1 : sizeOf0 (.string (D ++ S)) = 0 := by
          unfold sizeOf0
          rw [HDS.out]; rfl
        show _ < _
        rw [e1]
        by_cases h0 : m = 0
        · have : t = [] := by
            apply Classical.byContradiction; intro q; exact hz ⟨h0, q⟩
          rw [HE.out, this, h0]; decide
        · omega
      have hlen : ¬ 9223372036854775807 < D.size + S.size := by omega
      have HEm : Hid (m = 0 → S.toList.isEmpty = true) := fun h0 => by
        have : t = [] := by
          apply Classical.byContradiction; intro q; exact hz ⟨h0, q⟩
        rw [isEmpty_of t S HE.out, this]; rfl
      clear HF HB HE HD hz
      by_cases h0 : m = 0
      · have he := HEm.out h0
        subst h0
        have hv0 : (⟨#[48, 49, 50, 51, 52, 53, 54, 55, 56, 57, 97, 98, 99, 100, 101, 102]⟩ : ByteArray).extract 0 1 = D := hv
        clear HEm hv hq
        go_wp2
        go_roundw
        case rel => exact ⟨g, 0, _, D ++ S, rfl, rfl, HDS, hDS, HX, HB2, by omega, hB⟩
        case measure => exact HM.out
      · have h1 : (0 : Int) < m := by omega
        have hr : ((m % 16 : Nat) : Int) = (m : Int) % 16 := by omega
        clear HEm h0
        go_wp2
        go_roundw
        case rel => exact ⟨g, m / 16, _, D ++ S, by rw [hq], rfl, HDS, hDS, HX, HB2, by omega, hB⟩
        case measure =>
          have := HM.out
          rw [show intOf (Value.int IntKind.i64 ((m : Int) / 16)) = ((m / 16 : Nat) : Int) by rw [hq]; rfl]
          exact this

theorem hexF_len : ∀ f m (t : List UInt8), m < 16 ^ f → (t = [] → 1 ≤ f) → 1 ≤ (hexF f m t).length ∧ (hexF f m t).length ≤ t.length + f := by
  intro f
  induction f with
  | zero =>
    intro m t hm ht
    have : ¬ t = [] := fun e => by have := ht e; omega
    show 1 ≤ t.length ∧ t.length ≤ t.length + 0
    have : 1 ≤ t.length := by
      cases t with
      | nil => exact absurd rfl this
      | cons => simp
    omega
  | succ f ih =>
    intro m t hm ht
    by_cases h : m = 0 ∧ ¬ t = []
    · rw [hexF_zero _ _ _ h]
      have : 1 ≤ t.length := by
        cases t with
        | nil => exact absurd rfl h.2
        | cons => simp
      omega
    · have e : hexF (f + 1) m t = hexF f (m / 16) (hexD (m % 16) :: t) := if_neg h
      rw [e]
      have hm2 : m / 16 < 16 ^ f := by rw [Nat.pow_succ] at hm; omega
      have := ih (m / 16) (hexD (m % 16) :: t) hm2 (fun q => by simp at q)
      simp only [List.length_cons] at this; omega
theorem hexF_fuel : ∀ f g m (t : List UInt8), m < 16 ^ f → m < 16 ^ g → (t = [] → 1 ≤ f ∧ 1 ≤ g) → hexF f m t = hexF g m t := by
  intro f
  induction f with
  | zero =>
    intro g m t hm hg ht
    have h0 : m = 0 := by simpa using hm
    have hne : ¬ t = [] := fun e => by have := ht e; omega
    rw [hexF_zero g m t ⟨h0, hne⟩]; rfl
  | succ f ih =>
    intro g m t hm hg ht
    by_cases h : m = 0 ∧ ¬ t = []
    · rw [hexF_zero _ _ _ h, hexF_zero _ _ _ h]
    · obtain ⟨g, rfl⟩ : ∃ k, g = k + 1 := ⟨g - 1, by
        cases g with
        | zero =>
          have h0 : m = 0 := by simpa using hg
          have : t = [] := by
            apply Classical.byContradiction; intro q; exact h ⟨h0, q⟩
          have := ht this; omega
        | succ g => omega⟩
      have e : hexF (f + 1) m t = hexF f (m / 16) (hexD (m % 16) :: t) := if_neg h
      have e2 : hexF (g + 1) m t = hexF g (m / 16) (hexD (m % 16) :: t) := if_neg h
      rw [e, e2]
      exact ih g _ _ (by rw [Nat.pow_succ] at hm; omega) (by rw [Nat.pow_succ] at hg; omega) (fun q => by simp at q)
theorem hexL_len (n : Nat) (h : n < 65536) : 1 ≤ (hexL n).length ∧ (hexL n).length ≤ 4 := by
  have e : hexL n = hexF 4 n [] := hexF_fuel 20 4 n [] (by omega) (by omega) (fun _ => by omega)
  rw [e]
  exact hexF_len 4 n [] (by omega) (fun _ => by omega)
theorem decF_len : ∀ f m (t : List UInt8), m < 10 ^ f → (t = [] → 1 ≤ f) → 1 ≤ (decF f m t).length ∧ (decF f m t).length ≤ t.length + f := by
  intro f
  induction f with
  | zero =>
    intro m t hm ht
    have : ¬ t = [] := fun e => by have := ht e; omega
    show 1 ≤ t.length ∧ t.length ≤ t.length + 0
    have : 1 ≤ t.length := by
      cases t with
      | nil => exact absurd rfl this
      | cons => simp
    omega
  | succ f ih =>
    intro m t hm ht
    by_cases h : m = 0 ∧ ¬ t = []
    · rw [decF_zero _ _ _ h]
      have : 1 ≤ t.length := by
        cases t with
        | nil => exact absurd rfl h.2
        | cons => simp
      omega
    · have e : decF (f + 1) m t = decF f (m / 10) (UInt8.ofNat (48 + m % 10) :: t) := if_neg h
      rw [e]
      have hm2 : m / 10 < 10 ^ f := by rw [Nat.pow_succ] at hm; omega
      have := ih (m / 10) (UInt8.ofNat (48 + m % 10) :: t) hm2 (fun q => by simp at q)
      simp only [List.length_cons] at this; omega
theorem decL_bd (n : Nat) (h : n < 1000) : 1 ≤ (decL n).length ∧ (decL n).length ≤ 20 := by
  have := decF_len 20 n [] (by omega) (fun _ => by omega)
  simpa [decL] using this
end Go.Proofs.YtpiicdpipjjenaaGreatDoor
namespace Go.Proofs.YtpiicdpipjjenaaGreatDoor
open Go.RowKit
set_option linter.unusedSimpArgs false
set_option linter.unusedVariables false

def fam (F : Int) : Bool := decide (F = 32) || decide (F = 128)
theorem fam_ways (F : Int) (h : fam F = true) : F = 32 ∨ F = 128 := by unfold fam at h; simpa using h
theorem fam_no (F : Int) (h : fam F = false) : ¬ F = 32 ∧ ¬ F = 128 := by unfold fam at h; simpa using h
def lastV (F : Int) : BitVec 128 := if fam F = true then maskW F else 0#128
def lastE (F : Int) : Int := if fam F = true then 0 else 11
def rightE (F : Int) (x : BitVec 128) : Int := if fam F = true then (if x &&& maskW F = x then 0 else 6) else 11
theorem right0 (F : Int) (x : BitVec 128) (h : rightE F x = 0) : fam F = true ∧ x &&& maskW F = x := by
  unfold rightE at h
  split at h
  · split at h
    · exact ⟨‹_›, ‹_›⟩
    · omega
  · omega
theorem and_not_mask (F : Int) (x : BitVec 128) : (x &&& ~~~(maskW F) = 0#128) ↔ x &&& maskW F = x := by
  constructor
  · intro h
    apply BitVec.eq_of_getLsbD_eq; intro i hi
    have := congrArg (fun z => z.getLsbD i) h
    simp only [BitVec.getLsbD_and, BitVec.getLsbD_not, BitVec.getLsbD_zero, hi, decide_true, Bool.true_and] at this ⊢
    cases hx : x.getLsbD i <;> cases hm : (maskW F).getLsbD i <;> rw [hx, hm] at this <;> simp at this ⊢
  · intro h
    apply BitVec.eq_of_getLsbD_eq; intro i hi
    have := congrArg (fun z => z.getLsbD i) h
    simp only [BitVec.getLsbD_and, BitVec.getLsbD_not, BitVec.getLsbD_zero, hi, decide_true, Bool.true_and] at this ⊢
    cases hx : x.getLsbD i <;> cases hm : (maskW F).getLsbD i <;> rw [hx, hm] at this <;> simp at this ⊢
end Go.Proofs.YtpiicdpipjjenaaGreatDoor
namespace Go.Proofs.YtpiicdpipjjenaaGreatDoor
open Go.RowKit
set_option linter.unusedSimpArgs false
set_option linter.unusedVariables false

set_option maxHeartbeats 1000000 in
theorem alast_any (F : Int) (w : World) :
    Calls Tryz.prog 32 #[.int .i64 F] w fun e w' => e = .returned (.tuple #[.agg #[.int .u64 (hI (lastV F)), .int .u64 (lI (lastV F))], .int .i64 (lastE F)]) ∧ Below w.heap.size w w' := by
  unfold lastV lastE
  cases h : fam F
  · rw [if_neg (by simp), if_neg (by simp), hI_zero, lI_zero]
    obtain ⟨h1, h2⟩ := fam_no F h
    have b1 : (F != 32) = true := by simp [h1]
    have b2 : (F != 128) = true := by simp [h2]
    clear h
    go_enter Tryz.func32, Tryz.ntmps32
    go_wp2
    exact bodyPost_ret (v := .tuple #[.agg #[.int .u64 0, .int .u64 0], .int .i64 11]) (by simp [results, Tryz.results32, go_sem]) rfl ⟨rfl, bl1 _ _⟩
  · rw [if_pos rfl, if_pos rfl]
    rcases fam_ways F h with rfl | rfl
    all_goals
      clear h
      go_enter Tryz.func32, Tryz.ntmps32
      go_wp2_with fail
      refine (mask_any _ _).mono ?_
      rintro e w1 ⟨rfl, hb1⟩
      have hZ := (at_new w w.heap.size 0#128 43 rfl).below hb1
      have kB := keepb hb1 (bl1 w _)
      obtain ⟨z0, z1, z2, z3, z4⟩ := hZ
      clear hb1
      go_wp2
      exact bodyPost_ret (by simp [results, Tryz.results32, go_sem, *]) rfl ⟨rfl, bset2 kB (Nat.le_refl _) _ _⟩

set_option maxHeartbeats 1000000 in
theorem aright_any (F : Int) (x : BitVec 128) (w : World) :
    Calls Tryz.prog 59 #[.int .i64 F, .agg #[.int .u64 (hI x), .int .u64 (lI x)]] w fun e w' => e = .returned (.int .i64 (rightE F x)) ∧ Below w.heap.size w w' := by
  have KL := fun w => alast_any F w
  unfold lastV lastE at KL
  unfold rightE
  cases h : fam F
  · rw [if_neg (by simp)]
    rw [h, if_neg (by simp), if_neg (by simp), hI_zero, lI_zero] at KL
    clear h
    go_enter Tryz.func59, Tryz.ntmps59
    go_wp2_with fail
    refine (KL _).mono ?_
    rintro e w1 ⟨rfl, hb1⟩
    have kB := keepb hb1 (bl1 w _)
    clear hb1 KL
    go_wp2
    go_ret
    exact ⟨rfl, kB.alloc (by have := kB.size; omega) _⟩
  · rw [if_pos rfl]
    rw [h, if_pos rfl, if_pos rfl] at KL
    clear h
    generalize maskW F = m at *
    have KA := fun w => and_any x m w
    revert KA
    generalize x &&& m = y
    intro KA
    have fin : ∀ (v : Int), v = (if y = x then 0 else 6) → ((hI y == hI x) = true ∧ (lI y == lI x) = true ∧ v = 0 ∨ (hI y == hI x) = false ∧ v = 6 ∨ (hI y == hI x) = true ∧ (lI y == lI x) = false ∧ v = 6) := by
      intro v hv
      by_cases e : y = x
      · rw [if_pos e] at hv
        exact Or.inl ⟨by simp [e], by simp [e], hv⟩
      · rw [if_neg e] at hv
        by_cases e1 : hI y = hI x
        · exact Or.inr (Or.inr ⟨by simp [e1], by simp; exact fun e2 => e (eq_ints e1 e2), hv⟩)
        · exact Or.inr (Or.inl ⟨by simp [e1], hv⟩)
    generalize (if y = x then (0 : Int) else 6) = v at *
    rcases fin v rfl with ⟨q1, q2, rfl⟩ | ⟨q1, rfl⟩ | ⟨q1, q2, rfl⟩
    all_goals
      clear fin
      go_enter Tryz.func59, Tryz.ntmps59
      go_wp2_with fail
      refine (KL _).mono ?_
      rintro e w1 ⟨rfl, hb1⟩
      have kB := keepb hb1 (bl1 w _)
      have x0 : (w1.alloc (.cells #[.int .u64 (hI m), .int .u64 (lI m)] 43)).cell? ⟨w.heap.size, 0, none⟩ = some (.int .u64 (hI x)) := keepc (bl1 _ _) (keepc hb1 (by simp [go_sem]))
      have x1 : (w1.alloc (.cells #[.int .u64 (hI m), .int .u64 (lI m)] 43)).cell? ⟨w.heap.size, 1, none⟩ = some (.int .u64 (lI x)) := keepc (bl1 _ _) (keepc hb1 (by simp [go_sem]))
      have kB2 := (kB.alloc (by have := kB.size; omega) (.cells #[.int .u64 (hI m), .int .u64 (lI m)] 43)).drew
      clear hb1 KL kB
      go_wp2_with fail
      go_region_held3 (fun w' => w'.cell? ⟨w.heap.size, 0, none⟩ = some (.int .u64 (hI x)) ∧ w'.cell? ⟨w.heap.size, 1, none⟩ = some (.int .u64 (lI x)) ∧ w'.cell? ⟨w1.heap.size, 0, none⟩ = some (.int .u64 (hI m)) ∧ w'.cell? ⟨w1.heap.size, 1, none⟩ = some (.int .u64 (lI m)) ∧ Below w.heap.size w w')
        (first
          | (obtain ⟨k1, k2, k3, k4, k9⟩ := ‹_ ∧ _›; exact ⟨keepc hb3 k1, keepc hb3 k2, keepc hb3 k3, keepc hb3 k4, keepb hb3 k9⟩)
          | exact ⟨x0, x1, by simp [go_sem], by simp [go_sem], kB2⟩)
        (first
          | (go_at_call 85; refine (KA _).mono ?_; rintro e w3 ⟨rfl, hb3⟩))
      obtain ⟨-, -, -, -, kB3⟩ := ‹_ ∧ _›
      go_wp2
      go_ret
      exact ⟨rfl, kB3⟩
end Go.Proofs.YtpiicdpipjjenaaGreatDoor
namespace Go.Proofs.YtpiicdpipjjenaaGreatDoor
open Go.RowKit
set_option linter.unusedSimpArgs false
set_option linter.unusedVariables false

theorem At.drew {w : World} {B : Nat} {x : BitVec 128} (h : At w B x) : At w.drew B x := h
end Go.Proofs.YtpiicdpipjjenaaGreatDoor
namespace Go.Proofs.YtpiicdpipjjenaaGreatDoor
open Go.RowKit
set_option linter.unusedSimpArgs false
set_option linter.unusedVariables false

def hs (x y : BitVec 128) : Int := IntKind.u64.wrap (hI x + hI y)
def hd (x y : BitVec 128) : Int := IntKind.u64.wrap (hI x - hI y)
end Go.Proofs.YtpiicdpipjjenaaGreatDoor
namespace Go.Proofs.YtpiicdpipjjenaaGreatDoor
open Go.RowKit
set_option linter.unusedSimpArgs false
set_option linter.unusedVariables false

theorem q_run {P : Program} {ops : Array Oper} {C : World → Prop} {Q : Act → Prop} {a : Act} {o : Oper} {rest : List Oper} {v : Value}
    (hw : Region.wanted o (yielded ops a.tmps) = true) (h : ∀ w, C w → (execOp a.eval o).run P w = .ok (.value v) w) (k : wpQuiet P ops C Q rest (a.put o.dst v)) : wpQuiet P ops C Q (o :: rest) a := by
  refine wpQuiet_step (fun K hK => ?_)
  rw [if_pos hw]
  refine ⟨v, fun w hC => ?_, hK _ k⟩
  unfold Oper.quietAt; rw [h w hC]; exact ⟨rfl, rfl⟩
theorem q_skip {P : Program} {ops : Array Oper} {C : World → Prop} {Q : Act → Prop} {a : Act} {o : Oper} {rest : List Oper}
    (hw : Region.wanted o (yielded ops a.tmps) = false) (k : wpQuiet P ops C Q rest (a.put o.dst undef)) : wpQuiet P ops C Q (o :: rest) a := by
  refine wpQuiet_step (fun K hK => ?_)
  rw [if_neg (by rw [hw]; decide)]
  exact hK _ k
theorem q_call {P : Program} {ops : Array Oper} {C : World → Prop} {Q : Act → Prop} {a : Act} {o : Oper} {rest : List Oper} {v : Value} {f : FuncId} {args : Array Value}
    (hw : Region.wanted o (yielded ops a.tmps) = true) (h : ∀ w, C w → (execOp a.eval o).run P w = .ok (.enter f args) w) (hc : ∀ w, C w → Calls P f args w fun e w' => e = .returned v ∧ C w') (k : wpQuiet P ops C Q rest (a.put o.dst v)) : wpQuiet P ops C Q (o :: rest) a := by
  refine wpQuiet_step (fun K hK => ?_)
  rw [if_pos hw]
  refine ⟨v, fun w hC => ?_, hK _ k⟩
  unfold Oper.quietAt; rw [h w hC]; exact ⟨rfl, hc w hC⟩
theorem q_region {P : Program} {C : World → Prop} {id : Nat} {Q : Exit → Act → World → Prop} {a : Act} {w : World} {l : List Oper} (hm : P.follows .mixedOrders = true) (hB : Region.lexB .any l.toArray = true) (hC : C w.drew)
    (h : wpQuiet P l.toArray C (fun a' => ∀ w', C w' → Q .normal a' w') l a) : (Code.region id l.toArray true).wp P Q a w :=
  wp_region_quiet (C := C) hm hB hC (by simpa using h)
end Go.Proofs.YtpiicdpipjjenaaGreatDoor
namespace Go.Proofs.YtpiicdpipjjenaaGreatDoor
open Go.RowKit
set_option linter.unusedSimpArgs false
set_option linter.unusedVariables false

theorem isFamily_any (F : Int) (w : World) :
    Calls Tryz.prog 29 #[.int .i64 F] w fun e w' => e = .returned (.bool (fam F)) ∧ w' = w := by
  unfold fam
  by_cases h1 : F = 32
  · subst h1
    go_enter Tryz.func29, Tryz.ntmps29
    go_wp2
    go_ret
    exact ⟨rfl, rfl⟩
  · have b1 : (F == 32) = false := by simp [h1]
    have b2 : (F == 128) = decide (F = 128) := by rw [Bool.eq_iff_iff]; simp
    rw [show decide (F = 32) = false by simp [h1], Bool.false_or]
    go_enter Tryz.func29, Tryz.ntmps29
    go_wp2
    go_ret
    exact ⟨rfl, rfl⟩

theorem three (y x : BitVec 128) : ((hI y == hI x) = true ∧ (lI y == lI x) = true ∧ y = x) ∨ ((hI y == hI x) = false ∧ ¬ y = x) ∨ ((hI y == hI x) = true ∧ (lI y == lI x) = false ∧ ¬ y = x) := by
  by_cases e : y = x
  · exact Or.inl ⟨by simp [e], by simp [e], e⟩
  · by_cases e1 : hI y = hI x
    · exact Or.inr (Or.inr ⟨by simp [e1], by simp; exact fun e2 => e (eq_ints e1 e2), e⟩)
    · exact Or.inr (Or.inl ⟨by simp [e1], e⟩)
theorem three0 (y : BitVec 128) : ((hI y == 0) = true ∧ (lI y == 0) = true ∧ y = 0#128) ∨ ((hI y == 0) = false ∧ ¬ y = 0#128) ∨ ((hI y == 0) = true ∧ (lI y == 0) = false ∧ ¬ y = 0#128) := by
  have h := three y 0#128
  rw [hI_zero, lI_zero] at h; exact h

set_option maxHeartbeats 1000000 in
theorem rright_any (F : Int) (x : BitVec 128) (w : World) :
    Calls Tryz.prog 54 #[.int .i64 F, .agg #[.int .u64 (hI x), .int .u64 (lI x)]] w fun e w' => e = .returned (.int .i64 (rightE F x)) ∧ Below w.heap.size w w' := by
  have KI := fun w => isFamily_any F w
  unfold rightE
  cases h : fam F
  · rw [if_neg (by simp)]
    rw [h] at KI
    go_enter Tryz.func54, Tryz.ntmps54
    go_wp2_with fail
    refine (KI _).mono ?_
    rintro e w1 ⟨rfl, rfl⟩
    clear KI
    go_wp2
    go_ret
    exact ⟨rfl, bl1 _ _⟩
  · rw [if_pos rfl]
    rw [h] at KI
    have ha := and_not_mask F x
    have KA := fun w => rand_any x (~~~(maskW F)) w
    generalize x &&& ~~~(maskW F) = y at *
    have fin : ∀ (v : Int), v = (if x &&& maskW F = x then 0 else 6) → ((hI y == 0) = true ∧ (lI y == 0) = true ∧ v = 0 ∨ (hI y == 0) = false ∧ v = 6 ∨ (hI y == 0) = true ∧ (lI y == 0) = false ∧ v = 6) := by
      intro v hv
      rcases three0 y with ⟨a, b, c⟩ | ⟨a, c⟩ | ⟨a, b, c⟩
      · rw [if_pos (ha.mp c)] at hv; exact Or.inl ⟨a, b, hv⟩
      · rw [if_neg (fun q => c (ha.mpr q))] at hv; exact Or.inr (Or.inl ⟨a, hv⟩)
      · rw [if_neg (fun q => c (ha.mpr q))] at hv; exact Or.inr (Or.inr ⟨a, b, hv⟩)
    clear ha h
    generalize (if x &&& maskW F = x then (0 : Int) else 6) = v at *
    rcases fin v rfl with ⟨q1, q2, rfl⟩ | ⟨q1, rfl⟩ | ⟨q1, q2, rfl⟩
    all_goals
      clear fin
      go_enter Tryz.func54, Tryz.ntmps54
      go_wp2_with fail
      refine (KI _).mono ?_
      rintro e w1 ⟨rfl, rfl⟩
      clear KI
      have kB := (bl1 w (.cells #[.int .u64 (hI x), .int .u64 (lI x)] 43)).drew
      go_wp2_with fail
      go_region_held3 (fun w' => w'.cell? ⟨w.heap.size, 0, none⟩ = some (.int .u64 (hI x)) ∧ w'.cell? ⟨w.heap.size, 1, none⟩ = some (.int .u64 (lI x)) ∧ Below w.heap.size w w')
        (first
          | (obtain ⟨k1, k2, k9⟩ := ‹_ ∧ _›; exact ⟨keepc hb4 k1, keepc hb4 k2, keepb hb4 k9⟩)
          | (obtain ⟨k1, k2, k9⟩ := ‹_ ∧ _›; exact ⟨keepc hb3 k1, keepc hb3 k2, keepb hb3 k9⟩)
          | (obtain ⟨k1, k2, k9⟩ := ‹_ ∧ _›; exact ⟨keepc hb2 k1, keepc hb2 k2, keepb hb2 k9⟩)
          | exact ⟨by simp [go_sem], by simp [go_sem], kB⟩)
        (first
          | (go_at_call 53; refine (rmask_any _ _).mono ?_; rintro e w2 ⟨rfl, hb2⟩)
          | (go_at_call 77; refine (rnot_any _ _).mono ?_; rintro e w3 ⟨rfl, hb3⟩)
          | (go_at_call 52; refine (KA _).mono ?_; rintro e w4 ⟨rfl, hb4⟩))
      obtain ⟨-, -, kB3⟩ := ‹_ ∧ _›
      go_wp2
      go_ret
      exact ⟨rfl, kB3⟩
end Go.Proofs.YtpiicdpipjjenaaGreatDoor
namespace Go.Proofs.YtpiicdpipjjenaaGreatDoor
open Go.RowKit
set_option linter.unusedSimpArgs false
set_option linter.unusedVariables false

def leadN (z : BitVec 128) : Nat := if z.toNat = 0 then 128 else 127 - z.toNat.log2
def fitB (f n : Int) : Bool := decide (0 ≤ f) && decide (f ≤ 128) && decide (0 ≤ n) && decide (n ≤ 128 - f)
theorem fitB_t {f n : Int} (h : fitB f n = true) : 0 ≤ f ∧ f ≤ 128 ∧ 0 ≤ n ∧ n ≤ 128 - f := by
  unfold fitB at h; simp at h; omega
theorem lead_wide (v : BitVec 128) (n : Int) (h0 : 0 ≤ n) (h1 : n ≤ 128) : ((leadN v : Nat) : Int) < 128 - n ↔ ¬ v >>> n.toNat = 0#128 := by
  have hv := v.isLt
  have key : v >>> n.toNat = 0#128 ↔ v.toNat < 2 ^ n.toNat := by
    constructor
    · intro h
      have := congrArg BitVec.toNat h
      rw [BitVec.toNat_ushiftRight, Nat.shiftRight_eq_div_pow] at this
      have this2 : v.toNat / 2 ^ n.toNat = 0 := this
      rcases Nat.div_eq_zero_iff.mp this2 with h0 | h0
      · have := Nat.two_pow_pos n.toNat; omega
      · exact h0
    · intro h
      apply BitVec.eq_of_toNat_eq
      rw [BitVec.toNat_ushiftRight, Nat.shiftRight_eq_div_pow, Nat.div_eq_of_lt h]; rfl
  rw [key]
  unfold leadN
  split
  · rename_i h
    rw [h]; have := Nat.two_pow_pos n.toNat
    constructor
    · intro; omega
    · intro; omega
  · rename_i h
    have hl : v.toNat.log2 < 128 := (Nat.log2_lt h).mpr hv
    have := Nat.log2_lt (k := n.toNat) h
    constructor
    · intro g g2
      have := this.mpr g2; omega
    · intro g
      have : ¬ v.toNat.log2 < n.toNat := fun q => g (this.mp q)
      omega

def readW (x : BitVec 128) (f n : Int) : BitVec 128 := (x <<< f.toNat) >>> (128 - n).toNat
end Go.Proofs.YtpiicdpipjjenaaGreatDoor
namespace Go.Proofs.YtpiicdpipjjenaaGreatDoor
open Go.RowKit
set_option linter.unusedSimpArgs false
set_option linter.unusedVariables false

def Rd (w : World) (B : Nat) (x : BitVec 128) : Prop := w.cell? ⟨B, 0, none⟩ = some (.int .u64 (hI x)) ∧ w.cell? ⟨B, 1, none⟩ = some (.int .u64 (lI x))
theorem Rd.keep {W w' : World} {B : Nat} {x : BitVec 128} (h : Rd W B x) (hb : Below W.heap.size W w') : Rd w' B x := ⟨keepc hb h.1, keepc hb h.2⟩
theorem Rd.alloc {W : World} {B : Nat} {x : BitVec 128} (h : Rd W B x) (o : Obj) : Rd (W.alloc o) B x := h.keep (bl1 W o)
theorem Rd.new (W : World) (x : BitVec 128) (t : TypeId) : Rd (W.alloc (.cells #[.int .u64 (hI x), .int .u64 (lI x)] t)) W.heap.size x := by
  constructor <;> simp [go_sem]
set_option maxHeartbeats 1000000 in
theorem fits_any (f n : Int) (w : World) (hf : -9223372036854775808 ≤ f) (hf' : f ≤ 9223372036854775807) :
    Calls Tryz.prog 78 #[.int .i64 f, .int .i64 n] w fun e w' => e = .returned (.bool (fitB f n)) ∧ w' = w := by
  unfold fitB
  by_cases h0 : 0 ≤ f
  · by_cases h1 : f ≤ 128
    · by_cases h2 : 0 ≤ n
      · by_cases h3 : n ≤ 128 - f
        · go_enter Tryz.func78, Tryz.ntmps78
          go_wp2
          go_ret
          exact ⟨by simp [h0, h1, h2, h3] <;> omega, rfl⟩
        · go_enter Tryz.func78, Tryz.ntmps78
          go_wp2
          go_ret
          exact ⟨by simp [h0, h1, h2, h3] <;> omega, rfl⟩
      · go_enter Tryz.func78, Tryz.ntmps78
        go_wp2
        go_ret
        exact ⟨by simp [h0, h1, h2] <;> omega, rfl⟩
    · go_enter Tryz.func78, Tryz.ntmps78
      go_wp2
      go_ret
      exact ⟨by simp [h0, h1] <;> omega, rfl⟩
  · go_enter Tryz.func78, Tryz.ntmps78
    go_wp2
    go_ret
    exact ⟨by simp [h0] <;> omega, rfl⟩

set_option maxHeartbeats 1000000 in
theorem rfield_in (x : BitVec 128) (f n : Int) (w : World) (h : fitB f n = true) :
    Calls Tryz.prog 55 #[.agg #[.int .u64 (hI x), .int .u64 (lI x)], .int .i64 f, .int .i64 n] w fun e w' => e = .returned (.tuple #[.agg #[.int .u64 (hI (readW x f n)), .int .u64 (lI (readW x f n))], .int .i64 0]) ∧ Below w.heap.size w w' := by
  unfold readW
  obtain ⟨h0, h1, h2, h3⟩ := fitB_t h
  have hf := fun w => fits_any f n w (by omega) (by omega)
  rw [h] at hf
  clear h
  go_enter Tryz.func55, Tryz.ntmps55
  go_wp2_with fail
  refine (hf _).mono ?_
  rintro e w1 ⟨rfl, rfl⟩
  clear hf
  go_wp2_with fail
  refine (rshl_any _ _ _).mono ?_
  rintro e w2 ⟨rfl, hb2⟩
  go_wp2_with fail
  refine (rshr_any _ _ _).mono ?_
  rintro e w3 ⟨rfl, hb3⟩
  have hb := keepb hb3 hb2
  have e0 : w3.cell? ⟨w.heap.size + 1, 0, none⟩ = some (.int .u64 0) := keepc hb (by simp [go_sem])
  have e1 : w3.cell? ⟨w.heap.size + 1, 1, none⟩ = some (.int .u64 0) := keepc hb (by simp [go_sem])
  have e2 : w3.frozen? ⟨w.heap.size + 1, 0, none⟩ = false := keepf hb (v := .int .u64 0) (by simp [go_sem]) (by simp [go_sem])
  have e3 : w3.frozen? ⟨w.heap.size + 1, 1, none⟩ = false := keepf hb (v := .int .u64 0) (by simp [go_sem]) (by simp [go_sem])
  have kB : Below w.heap.size w w3 := keepb hb (bl2 _ _ _)
  clear hb hb2 hb3
  go_wp2
  exact bodyPost_ret (v := .tuple #[.agg #[.int .u64 (hI ((x <<< f.toNat) >>> (128 - n).toNat)), .int .u64 (lI ((x <<< f.toNat) >>> (128 - n).toNat))], .int .i64 0]) (by simp [results, Tryz.results55, go_sem, e0, e1]) rfl ⟨rfl, (kB.setCell (by simp) _).setCell (by simp) _⟩

end Go.Proofs.YtpiicdpipjjenaaGreatDoor
