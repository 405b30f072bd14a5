/-
  What the calls of turnpikelaw2's digits and octets do.
-/
import Derived.Test.YtldjeabdoooihaaRefH
namespace Go.Proofs.Ytldjeabdoooihaa
open Go.RowKit
set_option linter.unusedSimpArgs false
set_option linter.unusedVariables false

/-- A digit of sixteen, great or small. -/
def digD (u : Bool) (d : Nat) : UInt8 := if d < 10 then UInt8.ofNat (48 + d) else if u then UInt8.ofNat (55 + d) else UInt8.ofNat (87 + d)
theorem digD_cut0 (d : Nat) (h : d < 16) : (⟨#[48, 49, 50, 51, 52, 53, 54, 55, 56, 57, 97, 98, 99, 100, 101, 102]⟩ : ByteArray).extract d (d + 1) = ⟨#[digD false d]⟩ := by
  have key : ∀ d, d < 16 → (⟨#[48, 49, 50, 51, 52, 53, 54, 55, 56, 57, 97, 98, 99, 100, 101, 102]⟩ : ByteArray).extract d (d + 1) = ⟨#[digD false d]⟩ := by decide +kernel
  exact key d h
theorem digD_cut1 (d : Nat) (h : d < 16) : (⟨#[48, 49, 50, 51, 52, 53, 54, 55, 56, 57, 65, 66, 67, 68, 69, 70]⟩ : ByteArray).extract d (d + 1) = ⟨#[digD true d]⟩ := by
  have key : ∀ d, d < 16 → (⟨#[48, 49, 50, 51, 52, 53, 54, 55, 56, 57, 65, 66, 67, 68, 69, 70]⟩ : ByteArray).extract d (d + 1) = ⟨#[digD true d]⟩ := by decide +kernel
  exact key d h
/-- The digits of m by sixteen, so many at least, written ahead of t. -/
def digF (u : Bool) (e : Nat) : Nat → Nat → List UInt8 → List UInt8
  | 0, _, t => t
  | f + 1, m, t => if m = 0 ∧ e ≤ t.length then t else digF u e f (m / 16) (digD u (m % 16) :: t)
def digL (u : Bool) (e n : Nat) : List UInt8 := digF u e 4 n []
theorem digF_zero (u : Bool) (e f m : Nat) (t : List UInt8) (h : m = 0 ∧ e ≤ t.length) : digF u e f m t = t := by
  cases f with
  | zero => rfl
  | succ f => exact if_pos h
theorem digF_len (u : Bool) (e : Nat) (he : e ≤ 4) : ∀ f m (t : List UInt8), t.length + f = 4 → m < 16 ^ f → e ≤ (digF u e f m t).length ∧ (digF u e f m t).length ≤ 4 := by
  intro f
  induction f with
  | zero => intro m t h hm; show e ≤ t.length ∧ t.length ≤ 4; omega
  | succ f ih =>
    intro m t h hm
    by_cases hz : m = 0 ∧ e ≤ t.length
    · rw [digF_zero _ _ _ _ _ hz]; omega
    · rw [show digF u e (f + 1) m t = digF u e f (m / 16) (digD u (m % 16) :: t) from if_neg hz]
      rw [Nat.pow_succ] at hm
      exact ih _ _ (by simp; omega) (by omega)
theorem digL_len (u : Bool) (e n : Nat) (he : e ≤ 4) (h : n < 65536) : e ≤ (digL u e n).length ∧ (digL u e n).length ≤ 4 := digF_len u e he 4 n [] rfl h

def strLen (b : Value) : Nat := match b with | .string s => s.size | _ => 0
theorem isEm (t : ByteArray) : t.toList.isEmpty = decide (t.size = 0) := by
  rw [isEmpty_of t.data.toList t rfl]
  cases h : t.data.toList with
  | nil => 
    have : t.size = 0 := by rw [← ByteArray.size_data, ← Array.length_toList, h]; rfl
    simp [this]
  | cons a l =>
    have : t.size = l.length + 1 := by rw [← ByteArray.size_data, ← Array.length_toList, h]; rfl
    simp [this]

set_option maxHeartbeats 2000000 in
theorem digits_false (e n : Nat) (w : World) (h : n < 65536) (e1 : 1 ≤ e) (e4 : e ≤ 4) :
    Calls Try.prog 21 #[.int .i64 n, .int .i64 e, .bool false] w fun x w' => x = .returned (.string ⟨(digL false e n).toArray⟩) ∧ Below w.heap.size w w' := by
  go_enter Try.func21, Try.ntmps21
  go_wp2
  go_loopw [0, 8] (fun a b wr => ∃ (f m : Nat) (t : List UInt8) (S : ByteArray), a = .int .i64 m ∧ b = .string S ∧ Hid (S = ⟨t.toArray⟩) ∧ S.size + f = 4 ∧ Hid (digF false e f m t = digL false e n) ∧ Hid (m < 16 ^ f) ∧ m < 65536 ∧ Below w.heap.size w wr) (fun a b _ => (intOf a).toNat + (10 - strLen b))
  case atStart => exact ⟨4, n, [], ⟨#[]⟩, rfl, rfl, rfl, rfl, rfl, h, h, Below.refl _ _⟩
  case round =>
    obtain ⟨f, m, t, S, rfl, rfl, HE, hS, HF, HB, hm, hB⟩ := hrel
    have HL : Hid (t.length = S.size) := by show _ = _; rw [HE.out]; rfl
    by_cases hz : m = 0 ∧ e ≤ S.size
    · have HX : Hid (digL false e n = t) := by show _ = _; rw [← HF.out, digF_zero _ _ f m t ⟨hz.1, by rw [HL.out]; exact hz.2⟩]
      obtain ⟨rfl, hne⟩ := hz
      have he : S.toList.isEmpty = false := by rw [isEm]; exact decide_eq_false (by omega)
      have hl : ¬ (S.size : Int) < (e : Int) := by omega
      clear HF HB
      go_wp2
      refine bodyPost_ret (v := .string S) (by simp [results, Try.results21, go_sem]) rfl ⟨?_, hB⟩
      rw [HX.out, ← HE.out]
    · obtain ⟨g, rfl⟩ : ∃ g, f = g + 1 := ⟨f - 1, by
        by_cases h0 : m = 0
        · omega
        · have := HB.out
          cases f with
          | zero => simp at this; omega
          | succ f => omega⟩
      have HX : Hid (digF false e g (m / 16) (digD false (m % 16) :: t) = digL false e n) := by
        show _ = _
        rw [← HF.out]; exact (if_neg (by rw [HL.out]; exact hz)).symm
      have HB2 : Hid (m / 16 < 16 ^ g) := by
        show _ < _
        have := HB.out
        rw [Nat.pow_succ] at this
        omega
      have hm16 : m % 16 < 16 := by omega
      have hv : (⟨#[48, 49, 50, 51, 52, 53, 54, 55, 56, 57, 97, 98, 99, 100, 101, 102]⟩ : ByteArray).extract (m % 16) (m % 16 + 1) = ⟨#[digD false (m % 16)]⟩ := digD_cut0 (m % 16) hm16
      have hq : ((m / 16 : Nat) : Int) = (m : Int) / 16 := by omega
      obtain ⟨D, HD⟩ : ∃ D : ByteArray, Hid (D = ⟨#[digD false (m % 16)]⟩) := ⟨_, rfl⟩
      rw [← HD.out] at hv
      have hD : D.size = 1 := by rw [HD.out]; rfl
      have HDS : Hid (D ++ S = ⟨(digD false (m % 16) :: t).toArray⟩) := by
        show _ = _
        rw [HD.out, HE.out, cat_one]
      have hDS : (D ++ S).size = S.size + 1 := by rw [ByteArray.size_append, hD]; omega
      have HM : Hid ((m / 16) + (10 - (D ++ S).size) < m + (10 - S.size)) := by
        show _ < _
        rw [hDS]
        omega
      have hlen : ¬ 9223372036854775807 < D.size + S.size := by omega
      have hz2 : ¬ m = 0 ∨ (S.size : Int) < (e : Int) := by omega
      clear HF HB HE HD HL hz
      by_cases h0 : m = 0
      · have he : (S.size : Int) < (e : Int) := by omega
        subst h0
        have hv0 : (⟨#[48, 49, 50, 51, 52, 53, 54, 55, 56, 57, 97, 98, 99, 100, 101, 102]⟩ : ByteArray).extract 0 1 = D := hv
        clear hv hq hz2
        go_wp2
        go_roundw
        case rel => exact ⟨g, 0, _, D ++ S, rfl, rfl, HDS, by rw [hDS]; omega, HX, HB2, by omega, hB⟩
        case measure => exact HM.out
      · have h1 : (0 : Int) < m := by omega
        have hr : ((m % 16 : Nat) : Int) = (m : Int) % 16 := by omega
        clear h0 hz2
        go_wp2
        go_roundw
        case rel => exact ⟨g, m / 16, _, D ++ S, by rw [hq], rfl, HDS, by rw [hDS]; omega, HX, HB2, by omega, hB⟩
        case measure =>
          have := HM.out
          rw [show intOf (Value.int IntKind.i64 ((m : Int) / 16)) = ((m / 16 : Nat) : Int) by rw [hq]; rfl]
          exact this

set_option maxHeartbeats 2000000 in
theorem digits_true (e n : Nat) (w : World) (h : n < 65536) (e1 : 1 ≤ e) (e4 : e ≤ 4) :
    Calls Try.prog 21 #[.int .i64 n, .int .i64 e, .bool true] w fun x w' => x = .returned (.string ⟨(digL true e n).toArray⟩) ∧ Below w.heap.size w w' := by
  go_enter Try.func21, Try.ntmps21
  go_wp2
  go_loopw [0, 8] (fun a b wr => ∃ (f m : Nat) (t : List UInt8) (S : ByteArray), a = .int .i64 m ∧ b = .string S ∧ Hid (S = ⟨t.toArray⟩) ∧ S.size + f = 4 ∧ Hid (digF true e f m t = digL true e n) ∧ Hid (m < 16 ^ f) ∧ m < 65536 ∧ Below w.heap.size w wr) (fun a b _ => (intOf a).toNat + (10 - strLen b))
  case atStart => exact ⟨4, n, [], ⟨#[]⟩, rfl, rfl, rfl, rfl, rfl, h, h, Below.refl _ _⟩
  case round =>
    obtain ⟨f, m, t, S, rfl, rfl, HE, hS, HF, HB, hm, hB⟩ := hrel
    have HL : Hid (t.length = S.size) := by show _ = _; rw [HE.out]; rfl
    by_cases hz : m = 0 ∧ e ≤ S.size
    · have HX : Hid (digL true e n = t) := by show _ = _; rw [← HF.out, digF_zero _ _ f m t ⟨hz.1, by rw [HL.out]; exact hz.2⟩]
      obtain ⟨rfl, hne⟩ := hz
      have he : S.toList.isEmpty = false := by rw [isEm]; exact decide_eq_false (by omega)
      have hl : ¬ (S.size : Int) < (e : Int) := by omega
      clear HF HB
      go_wp2
      refine bodyPost_ret (v := .string S) (by simp [results, Try.results21, go_sem]) rfl ⟨?_, hB⟩
      rw [HX.out, ← HE.out]
    · obtain ⟨g, rfl⟩ : ∃ g, f = g + 1 := ⟨f - 1, by
        by_cases h0 : m = 0
        · omega
        · have := HB.out
          cases f with
          | zero => simp at this; omega
          | succ f => omega⟩
      have HX : Hid (digF true e g (m / 16) (digD true (m % 16) :: t) = digL true e n) := by
        show _ = _
        rw [← HF.out]; exact (if_neg (by rw [HL.out]; exact hz)).symm
      have HB2 : Hid (m / 16 < 16 ^ g) := by
        show _ < _
        have := HB.out
        rw [Nat.pow_succ] at this
        omega
      have hm16 : m % 16 < 16 := by omega
      have hv : (⟨#[48, 49, 50, 51, 52, 53, 54, 55, 56, 57, 65, 66, 67, 68, 69, 70]⟩ : ByteArray).extract (m % 16) (m % 16 + 1) = ⟨#[digD true (m % 16)]⟩ := digD_cut1 (m % 16) hm16
      have hq : ((m / 16 : Nat) : Int) = (m : Int) / 16 := by omega
      obtain ⟨D, HD⟩ : ∃ D : ByteArray, Hid (D = ⟨#[digD true (m % 16)]⟩) := ⟨_, rfl⟩
      rw [← HD.out] at hv
      have hD : D.size = 1 := by rw [HD.out]; rfl
      have HDS : Hid (D ++ S = ⟨(digD true (m % 16) :: t).toArray⟩) := by
        show _ = _
        rw [HD.out, HE.out, cat_one]
      have hDS : (D ++ S).size = S.size + 1 := by rw [ByteArray.size_append, hD]; omega
      have HM : Hid ((m / 16) + (10 - (D ++ S).size) < m + (10 - S.size)) := by
        show _ < _
        rw [hDS]
        omega
      have hlen : ¬ 9223372036854775807 < D.size + S.size := by omega
      have hz2 : ¬ m = 0 ∨ (S.size : Int) < (e : Int) := by omega
      clear HF HB HE HD HL hz
      by_cases h0 : m = 0
      · have he : (S.size : Int) < (e : Int) := by omega
        subst h0
        have hv0 : (⟨#[48, 49, 50, 51, 52, 53, 54, 55, 56, 57, 65, 66, 67, 68, 69, 70]⟩ : ByteArray).extract 0 1 = D := hv
        clear hv hq hz2
        go_wp2
        go_roundw
        case rel => exact ⟨g, 0, _, D ++ S, rfl, rfl, HDS, by rw [hDS]; omega, HX, HB2, by omega, hB⟩
        case measure => exact HM.out
      · have h1 : (0 : Int) < m := by omega
        have hr : ((m % 16 : Nat) : Int) = (m : Int) % 16 := by omega
        clear h0 hz2
        go_wp2
        go_roundw
        case rel => exact ⟨g, m / 16, _, D ++ S, by rw [hq], rfl, HDS, by rw [hDS]; omega, HX, HB2, by omega, hB⟩
        case measure =>
          have := HM.out
          rw [show intOf (Value.int IntKind.i64 ((m : Int) / 16)) = ((m / 16 : Nat) : Int) by rw [hq]; rfl]
          exact this

theorem digits_any (u : Bool) (e n : Nat) (w : World) (h : n < 65536) (e1 : 1 ≤ e) (e4 : e ≤ 4) :
    Calls Try.prog 21 #[.int .i64 n, .int .i64 e, .bool u] w fun x w' => x = .returned (.string ⟨(digL u e n).toArray⟩) ∧ Below w.heap.size w w' := by
  cases u
  · exact digits_false e n w h e1 e4
  · exact digits_true e n w h e1 e4
end Go.Proofs.Ytldjeabdoooihaa
