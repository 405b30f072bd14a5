/-
  What the calls of law 2's within and decimal do.
-/
import Derived.Test.YtldjeabdoooihaaAdr6
import Derived.Laws.IdiomStrings
namespace Go.Proofs.Ytldjeabdoooihaa
open Go.RowKit
set_option linter.unusedSimpArgs false
set_option linter.unusedVariables false

theorem tmod_ways (a n : Int) (h : 0 < n) : (a.tmod n < 0 ∧ a.tmod n + n = a % n) ∨ (0 ≤ a.tmod n ∧ a.tmod n = a % n) := by
  by_cases h0 : 0 ≤ a
  · right
    have : a.tmod n = a % n := Int.tmod_eq_emod_of_nonneg h0
    exact ⟨by rw [this]; exact Int.emod_nonneg _ (by omega), this⟩
  · have e := Int.tmod_eq_emod (a := a) (b := n)
    have b1 := Int.emod_nonneg a (b := n) (by omega)
    have b2 := Int.emod_lt_of_pos a h
    split at e
    · right; omega
    · left
      have : (n.natAbs : Int) = n := by omega
      omega
set_option maxHeartbeats 1000000 in
theorem within_any (a n : Int) (w : World) (h0 : 0 < n) (h1 : n ≤ 9223372036854775807) :
    Calls Try.prog 17 #[.int .i64 a, .int .i64 n] w fun e w' => e = .returned (.int .i64 (a % n)) ∧ w' = w := by
  have b1 := Int.emod_nonneg a (b := n) (by omega)
  have b2 := Int.emod_lt_of_pos a h0
  have hn0 : ¬ n = 0 := by omega
  have hnb : (n == 0) = false := by simp; omega
  rcases tmod_ways a n h0 with ⟨c, e⟩ | ⟨c, e⟩
  · have hw : IntKind.i64.wrap (a.tmod n) = a.tmod n := by rw [IntKind.wrap_i64]; omega
    have hw2 : IntKind.i64.wrap (a.tmod n + n) = a.tmod n + n := by rw [IntKind.wrap_i64]; omega
    rw [← e]
    clear e b1 b2
    go_enter Try.func17, Try.ntmps17
    go_wp2
    go_ret
    exact ⟨rfl, rfl⟩
  · have hw : IntKind.i64.wrap (a.tmod n) = a.tmod n := by rw [IntKind.wrap_i64]; omega
    rw [← e]
    clear e b1 b2
    go_enter Try.func17, Try.ntmps17
    go_wp2
    go_ret
    exact ⟨rfl, rfl⟩

/-- The digits of m, written ahead of t. -/
def decF : Nat → Nat → List UInt8 → List UInt8
  | 0, _, t => t
  | f + 1, m, t => if m = 0 ∧ ¬ t = [] then t else decF f (m / 10) (UInt8.ofNat (48 + m % 10) :: t)
def decL (n : Nat) : List UInt8 := decF 20 n []

theorem one_conv (w : World) (d : Nat) (h : d < 256) :
    (convert 40 9 (.slice (some ⟨w.heap.size, 0, none⟩) 1 1)).run Try.prog (w.alloc (.cells #[.int .u8 (d : Int)] 5)) = .ok (.string ⟨#[UInt8.ofNat d]⟩) (w.alloc (.cells #[.int .u8 (d : Int)] 5)) := by
  have := run_convert_bytes_back (P := Try.prog) (w.alloc (.cells #[.int .u8 (d : Int)] 5)) 40 9 5 ⟨w.heap.size, 0, none⟩ 1 [UInt8.ofNat d] Try.underlying40 Try.underlying5 Try.underlying9 (by
    intro j hj
    have : j = 0 := by simpa using hj
    subst this
    have e : (UInt8.ofNat d).toNat = d := by rw [UInt8.toNat_ofNat']; omega
    simp [go_sem, Addr.add, e])
  exact this
theorem cat_one (d : UInt8) (t : List UInt8) : ((⟨#[d]⟩ : ByteArray) ++ ⟨t.toArray⟩) = ⟨(d :: t).toArray⟩ := by
  apply ByteArray.ext
  simp
theorem decF_zero (f m : Nat) (t : List UInt8) (h : m = 0 ∧ ¬ t = []) : decF f m t = t := by
  cases f with
  | zero => rfl
  | succ f => exact if_pos h

theorem isEmpty_of (t : List UInt8) (S : ByteArray) (h : S = ⟨t.toArray⟩) : S.toList.isEmpty = t.isEmpty := by
  subst h
  rw [Lib.toList_data]
def sizeOf0 (b : Value) : Nat := match b with | .string s => if s.size = 0 then 1 else 0 | _ => 0

set_option maxHeartbeats 1000000 in
theorem decimal_any (n : Nat) (w : World) (h : n < 1000000000000000000) :
    Calls Try.prog 42 #[.int .i64 n] w fun e w' => e = .returned (.string ⟨(decL n).toArray⟩) ∧ Below w.heap.size w w' := by
  go_enter Try.func42, Try.ntmps42
  go_wp2
  go_loopw [0, 3] (fun a b wr => ∃ (f m : Nat) (t : List UInt8) (S : ByteArray), a = .int .i64 m ∧ b = .string S ∧ Hid (S = ⟨t.toArray⟩) ∧ S.size ≤ 20 ∧ Hid (decF f m t = decL n) ∧ Hid (m < 10 ^ f ∧ (t = [] → 1 ≤ f) ∧ t.length + f ≤ 20) ∧ m < 1000000000000000000 ∧ Below w.heap.size w wr) (fun a b _ => (intOf a).toNat * 2 + sizeOf0 b)
  case atStart => exact ⟨20, n, [], ⟨#[]⟩, rfl, rfl, rfl, by decide, rfl, ⟨by omega, by omega, by decide⟩, h, Below.refl _ _⟩
  case round =>
    obtain ⟨f, m, t, S, rfl, rfl, HE, hS, HF, HB, hm, hB⟩ := hrel
    by_cases hz : m = 0 ∧ ¬ t = []
    · have HX : Hid (decL n = t) := by show _ = _; rw [← HF.out, decF_zero f m t hz]
      obtain ⟨rfl, hne⟩ := hz
      have he : S.toList.isEmpty = false := by
        rw [isEmpty_of t S HE.out]
        cases t with
        | nil => exact absurd rfl hne
        | cons a l => rfl
      clear HF HB
      go_wp2
      refine bodyPost_ret (v := .string S) (by simp [results, Try.results42, go_sem]) rfl ⟨?_, hB⟩
      rw [HX.out, ← HE.out]
    · obtain ⟨g, rfl⟩ : ∃ g, f = g + 1 := ⟨f - 1, by
        by_cases h0 : m = 0
        · have : t = [] := by
            apply Classical.byContradiction; intro q; exact hz ⟨h0, q⟩
          have := HB.out.2.1 this
          omega
        · have := HB.out.1
          cases f with
          | zero => simp at this; omega
          | succ f => omega⟩
      have HX : Hid (decF g (m / 10) (UInt8.ofNat (48 + m % 10) :: t) = decL n) := by
        show _ = _
        rw [← HF.out]; exact (if_neg hz).symm
      have HB2 : Hid (m / 10 < 10 ^ g ∧ (UInt8.ofNat (48 + m % 10) :: t = [] → 1 ≤ g) ∧ (UInt8.ofNat (48 + m % 10) :: t).length + g ≤ 20) := by
        refine ⟨?_, fun q => by simp at q, ?_⟩
        · have := HB.out.1
          rw [Nat.pow_succ] at this
          omega
        · have := HB.out.2.2
          simp only [List.length_cons]; omega
      have hv := one_conv wr (48 + m % 10) (by omega)
      have hd : ((48 + m % 10 : Nat) : Int) = 48 + (m : Int) % 10 := by omega
      rw [hd] at hv
      have hq : ((m / 10 : Nat) : Int) = (m : Int) / 10 := by omega
      obtain ⟨D, HD⟩ : ∃ D : ByteArray, Hid (D = ⟨#[UInt8.ofNat (48 + m % 10)]⟩) := ⟨_, rfl⟩
      rw [← HD.out] at hv
      have hD : D.size = 1 := by rw [HD.out]; rfl
      have HDS : Hid (D ++ S = ⟨(UInt8.ofNat (48 + m % 10) :: t).toArray⟩) := by
        show _ = _
        rw [HD.out, HE.out, cat_one]
      have hDS : (D ++ S).size ≤ 20 := by
        rw [HDS.out]
        have := HB2.out.2.2
        show (UInt8.ofNat (48 + m % 10) :: t).length ≤ 20
        omega
      have HM : Hid ((m / 10) * 2 + sizeOf0 (.string (D ++ S)) < m * 2 + sizeOf0 (.string S)) := by
        have e1 : sizeOf0 (.string (D ++ S)) = 0 := by
          unfold sizeOf0
          rw [HDS.out]; rfl
        show _ < _
        rw [e1]
        by_cases h0 : m = 0
        · have : t = [] := by
            apply Classical.byContradiction; intro q; exact hz ⟨h0, q⟩
          rw [HE.out, this, h0]; decide
        · omega
      have hlen : ¬ 9223372036854775807 < D.size + S.size := by omega
      have HEm : Hid (m = 0 → S.toList.isEmpty = true) := fun h0 => by
        have : t = [] := by
          apply Classical.byContradiction; intro q; exact hz ⟨h0, q⟩
        rw [isEmpty_of t S HE.out, this]; rfl
      clear HF HB HE HD hz
      by_cases h0 : m = 0
      · have he := HEm.out h0
        subst h0
        have hv0 : (convert 40 9 (.slice (some ⟨wr.heap.size, 0, none⟩) 1 1)).run Try.prog (wr.alloc (.cells #[.int .u8 48] 5)) = .ok (.string D) (wr.alloc (.cells #[.int .u8 48] 5)) := hv
        clear HEm hv hd hq
        go_wp2
        go_roundw
        case rel => exact ⟨g, 0, _, D ++ S, rfl, rfl, HDS, hDS, HX, HB2, by omega, hB.alloc hB.size _⟩
        case measure => exact HM.out
      · have h1 : (0 : Int) < m := by omega
        clear HEm h0
        go_wp2
        go_roundw
        case rel => exact ⟨g, m / 10, _, D ++ S, by rw [hq], rfl, HDS, hDS, HX, HB2, by omega, hB.alloc hB.size _⟩
        case measure =>
          have := HM.out
          rw [show intOf (Value.int IntKind.i64 ((m : Int) / 10)) = ((m / 10 : Nat) : Int) by rw [hq]; rfl]
          exact this
end Go.Proofs.Ytldjeabdoooihaa
