/-
  Part 36 of the proof: 2 texts, one behind the other.
-/
import Derived.Test.YtmeaikmmhgmgnaaGreatPart11
import Derived.Test.YtmeaikmmhgmgnaaGreatPart10
namespace Go.Proofs.YtmeaikmmhgmgnaaGreat
open Go.RowKit
set_option linter.unusedSimpArgs false
set_option linter.unusedVariables false

set_option maxHeartbeats 1000000 in
set_option maxRecDepth 20000 in
theorem rdec_any (n : Nat) (w : World) (h : n < 1000000000000000000) :
    Calls Tryz.prog 42 #[.int .i64 n] w fun e w' => e = .returned (.string ⟨(decL n).toArray⟩) ∧ Below w.heap.size w w' := by
  have hn0 : ¬ (n : Int) < 0 := by omega
  go_enter Tryz.func42, Tryz.ntmps42
  go_wp2
  go_loopw [0, 3] (fun a b wr => ∃ (f m : Nat) (t : List UInt8) (S : ByteArray), a = .int .i64 m ∧ b = .string S ∧ Hid (S = ⟨t.toArray⟩) ∧ S.size ≤ 20 ∧ Hid (decF f m t = decL n) ∧ Hid (m < 10 ^ f ∧ (t = [] → 1 ≤ f) ∧ t.length + f ≤ 20) ∧ m < 1000000000000000000 ∧ Below w.heap.size w wr) (fun a b _ => (intOf a).toNat * 2 + sizeOf0 b)
  case atStart => exact ⟨20, n, [], ⟨#[]⟩, rfl, rfl, rfl, by decide, rfl, ⟨by omega, by omega, by decide⟩, h, Below.refl _ _⟩
  case round =>
    obtain ⟨f, m, t, S, rfl, rfl, HE, hS, HF, HB, hm, hB⟩ := hrel
    by_cases hz : m = 0 ∧ ¬ t = []
    · have HX : Hid (decL n = t) := by show _ = _; rw [← HF.out, decF_zero f m t hz]
      obtain ⟨rfl, hne⟩ := hz
      have he : S.toList.isEmpty = false := by
        rw [isEmpty_of t S HE.out]
        cases t with
        | nil => exact absurd rfl hne
        | cons a l => rfl
      clear HF HB
      go_wp2
      refine bodyPost_ret (v := .string S) (by simp [results, Tryz.results42, go_sem]) rfl ⟨?_, hB⟩
      rw [HX.out, ← HE.out]
    · obtain ⟨g, rfl⟩ : ∃ g, f = g + 1 := ⟨f - 1, by
        by_cases h0 : m = 0
        · have : t = [] := by
            apply Classical.byContradiction; intro q; exact hz ⟨h0, q⟩
          have := HB.out.2.1 this
          omega
        · have := HB.out.1
          cases f with
          | zero => simp at this; omega
          | succ f => omega⟩
      have HX : Hid (decF g (m / 10) (UInt8.ofNat (48 + m % 10) :: t) = decL n) := by
        show _ = _
        rw [← HF.out]; exact (if_neg hz).symm
      have HB2 : Hid (m / 10 < 10 ^ g ∧ (UInt8.ofNat (48 + m % 10) :: t = [] → 1 ≤ g) ∧ (UInt8.ofNat (48 + m % 10) :: t).length + g ≤ 20) := by
        refine ⟨?_, fun q => by simp at q, ?_⟩
        · have := HB.out.1
          rw [Nat.pow_succ] at this
          omega
        · have := HB.out.2.2
          simp only [List.length_cons]; omega
      have hv := one_conv wr (48 + m % 10) (by omega)
      have hd : ((48 + m % 10 : Nat) : Int) = 48 + (m : Int) % 10 := by omega
      rw [hd] at hv
      have hq : ((m / 10 : Nat) : Int) = (m : Int) / 10 := by omega
      obtain ⟨D, HD⟩ : ∃ D : ByteArray, Hid (D = ⟨#[UInt8.ofNat (48 + m % 10)]⟩) := ⟨_, rfl⟩
      rw [← HD.out] at hv
      have hD : D.size = 1 := by rw [HD.out]; rfl
      have HDS : Hid (D ++ S = ⟨(UInt8.ofNat (48 + m % 10) :: t).toArray⟩) := by
        show _ = _
        rw [HD.out, HE.out, cat_one]
      have hDS : (D ++ S).size ≤ 20 := by
        rw [HDS.out]
        have := HB2.out.2.2
        show (UInt8.ofNat (48 + m % 10) :: t).length ≤ 20
        omega
      have HM : Hid ((m / 10) * 2 + sizeOf0 (.string (D ++ S)) < m * 2 + sizeOf0 (.string S)) := by
        have e1 : sizeOf0 (.string (D ++ S)) = 0 := by
          unfold sizeOf0
          rw [HDS.out]; rfl
        show _ < _
        rw [e1]
        by_cases h0 : m = 0
        · have : t = [] := by
            apply Classical.byContradiction; intro q; exact hz ⟨h0, q⟩
          rw [HE.out, this, h0]; decide
        · omega
      have hlen : ¬ 9223372036854775807 < D.size + S.size := by omega
      have HEm : Hid (m = 0 → S.toList.isEmpty = true) := fun h0 => by
        have : t = [] := by
          apply Classical.byContradiction; intro q; exact hz ⟨h0, q⟩
        rw [isEmpty_of t S HE.out, this]; rfl
      clear HF HB HE HD hz
      by_cases h0 : m = 0
      · have he := HEm.out h0
        subst h0
        have hv0 : (convert 53 9 (.slice (some ⟨wr.heap.size, 0, none⟩) 1 1)).run Tryz.prog (wr.alloc (.cells #[.int .u8 48] 5)) = .ok (.string D) (wr.alloc (.cells #[.int .u8 48] 5)) := hv
        clear HEm hv hd hq
        go_wp2
        go_roundw
        case rel => exact ⟨g, 0, _, D ++ S, rfl, rfl, HDS, hDS, HX, HB2, by omega, hB.alloc hB.size _⟩
        case measure => exact HM.out
      · have h1 : (0 : Int) < m := by omega
        clear HEm h0
        go_wp2
        go_roundw
        case rel => exact ⟨g, m / 10, _, D ++ S, by rw [hq], rfl, HDS, hDS, HX, HB2, by omega, hB.alloc hB.size _⟩
        case measure =>
          have := HM.out
          rw [show intOf (Value.int IntKind.i64 ((m : Int) / 10)) = ((m / 10 : Nat) : Int) by rw [hq]; rfl]
          exact this

def hexD (d : Nat) : UInt8 := if d < 10 then UInt8.ofNat (48 + d) else UInt8.ofNat (87 + d)
theorem hexD_cut (d : Nat) (h : d < 16) : (⟨#[48, 49, 50, 51, 52, 53, 54, 55, 56, 57, 97, 98, 99, 100, 101, 102]⟩ : ByteArray).extract d (d + 1) = ⟨#[hexD d]⟩ := by
  have key : ∀ d, d < 16 → (⟨#[48, 49, 50, 51, 52, 53, 54, 55, 56, 57, 97, 98, 99, 100, 101, 102]⟩ : ByteArray).extract d (d + 1) = ⟨#[hexD d]⟩ := by decide +kernel
  exact key d h
def hexF : Nat → Nat → List UInt8 → List UInt8
  | 0, _, t => t
  | f + 1, m, t => if m = 0 ∧ ¬ t = [] then t else hexF f (m / 16) (hexD (m % 16) :: t)
def hexL (n : Nat) : List UInt8 := hexF 20 n []
theorem hexF_zero (f m : Nat) (t : List UInt8) (h : m = 0 ∧ ¬ t = []) : hexF f m t = t := by
  cases f with
  | zero => rfl
  | succ f => exact if_pos h

set_option maxHeartbeats 1000000 in
theorem rhex_any (n : Nat) (w : World) (h : n < 1000000000000000000) :
    Calls Tryz.prog 85 #[.int .i64 n] w fun e w' => e = .returned (.string ⟨(hexL n).toArray⟩) ∧ Below w.heap.size w w' := by
  go_enter Tryz.func85, Tryz.ntmps85
  go_wp2
  go_loopw [0, 3] (fun a b wr => ∃ (f m : Nat) (t : List UInt8) (S : ByteArray), a = .int .i64 m ∧ b = .string S ∧ Hid (S = ⟨t.toArray⟩) ∧ S.size ≤ 20 ∧ Hid (hexF f m t = hexL n) ∧ Hid (m < 16 ^ f ∧ (t = [] → 1 ≤ f) ∧ t.length + f ≤ 20) ∧ m < 1000000000000000000 ∧ Below w.heap.size w wr) (fun a b _ => (intOf a).toNat * 2 + sizeOf0 b)
  case atStart => exact ⟨20, n, [], ⟨#[]⟩, rfl, rfl, rfl, by decide, rfl, ⟨by omega, by omega, by decide⟩, h, Below.refl _ _⟩
  case round =>
    obtain ⟨f, m, t, S, rfl, rfl, HE, hS, HF, HB, hm, hB⟩ := hrel
    by_cases hz : m = 0 ∧ ¬ t = []
    · have HX : Hid (hexL n = t) := by show _ = _; rw [← HF.out, hexF_zero f m t hz]
      obtain ⟨rfl, hne⟩ := hz
      have he : S.toList.isEmpty = false := by
        rw [isEmpty_of t S HE.out]
        cases t with
        | nil => exact absurd rfl hne
        | cons a l => rfl
      clear HF HB
      go_wp2
      refine bodyPost_ret (v := .string S) (by simp [results, Tryz.results85, go_sem]) rfl ⟨?_, hB⟩
      rw [HX.out, ← HE.out]
    · obtain ⟨g, rfl⟩ : ∃ g, f = g + 1 := ⟨f - 1, by
        by_cases h0 : m = 0
        · have : t = [] := by
            apply Classical.byContradiction; intro q; exact hz ⟨h0, q⟩
          have := HB.out.2.1 this
          omega
        · have := HB.out.1
          cases f with
          | zero => simp at this; omega
          | succ f => omega⟩
      have HX : Hid (hexF g (m / 16) (hexD (m % 16) :: t) = hexL n) := by
        show _ = _
        rw [← HF.out]; exact (if_neg hz).symm
      have HB2 : Hid (m / 16 < 16 ^ g ∧ (hexD (m % 16) :: t = [] → 1 ≤ g) ∧ (hexD (m % 16) :: t).length + g ≤ 20) := by
        refine ⟨?_, fun q => by simp at q, ?_⟩
        · have := HB.out.1
          rw [Nat.pow_succ] at this
          omega
        · have := HB.out.2.2
          simp only [List.length_cons]; omega
      have hm16 : m % 16 < 16 := by omega
      have hv : (⟨#[48, 49, 50, 51, 52, 53, 54, 55, 56, 57, 97, 98, 99, 100, 101, 102]⟩ : ByteArray).extract (m % 16) (m % 16 + 1) = ⟨#[hexD (m % 16)]⟩ := hexD_cut (m % 16) hm16
      have hq : ((m / 16 : Nat) : Int) = (m : Int) / 16 := by omega
      obtain ⟨D, HD⟩ : ∃ D : ByteArray, Hid (D = ⟨#[hexD (m % 16)]⟩) := ⟨_, rfl⟩
      rw [← HD.out] at hv
      have hD : D.size = 1 := by rw [HD.out]; rfl
      have HDS : Hid (D ++ S = ⟨(hexD (m % 16) :: t).toArray⟩) := by
        show _ = _
        rw [HD.out, HE.out, cat_one]
      have hDS : (D ++ S).size ≤ 20 := by
        rw [HDS.out]
        have := HB2.out.2.2
        show (hexD (m % 16) :: t).length ≤ 20
        omega
      have HM : Hid ((m / 16) * 2 + sizeOf0 (.string (D ++ S)) < m * 2 + sizeOf0 (.string S)) := by
        have e1 : sizeOf0 (.string (D ++ S)) = 0 := by
          unfold sizeOf0
          rw [HDS.out]; rfl
        show _ < _
        rw [e1]
        by_cases h0 : m = 0
        · have : t = [] := by
            apply Classical.byContradiction; intro q; exact hz ⟨h0, q⟩
          rw [HE.out, this, h0]; decide
        · omega
      have hlen : ¬ 9223372036854775807 < D.size + S.size := by omega
      have HEm : Hid (m = 0 → S.toList.isEmpty = true) := fun h0 => by
        have : t = [] := by
          apply Classical.byContradiction; intro q; exact hz ⟨h0, q⟩
        rw [isEmpty_of t S HE.out, this]; rfl
      clear HF HB HE HD hz
      by_cases h0 : m = 0
      · have he := HEm.out h0
        subst h0
        have hv0 : (⟨#[48, 49, 50, 51, 52, 53, 54, 55, 56, 57, 97, 98, 99, 100, 101, 102]⟩ : ByteArray).extract 0 1 = D := hv
        clear HEm hv hq
        go_wp2
        go_roundw
        case rel => exact ⟨g, 0, _, D ++ S, rfl, rfl, HDS, hDS, HX, HB2, by omega, hB⟩
        case measure => exact HM.out
      · have h1 : (0 : Int) < m := by omega
        have hr : ((m % 16 : Nat) : Int) = (m : Int) % 16 := by omega
        clear HEm h0
        go_wp2
        go_roundw
        case rel => exact ⟨g, m / 16, _, D ++ S, by rw [hq], rfl, HDS, hDS, HX, HB2, by omega, hB⟩
        case measure =>
          have := HM.out
          rw [show intOf (Value.int IntKind.i64 ((m : Int) / 16)) = ((m / 16 : Nat) : Int) by rw [hq]; rfl]
          exact this

theorem hexF_len : ∀ f m (t : List UInt8), m < 16 ^ f → (t = [] → 1 ≤ f) → 1 ≤ (hexF f m t).length ∧ (hexF f m t).length ≤ t.length + f := by
  intro f
  induction f with
  | zero =>
    intro m t hm ht
    have : ¬ t = [] := fun e => by have := ht e; omega
    show 1 ≤ t.length ∧ t.length ≤ t.length + 0
    have : 1 ≤ t.length := by
      cases t with
      | nil => exact absurd rfl this
      | cons => simp
    omega
  | succ f ih =>
    intro m t hm ht
    by_cases h : m = 0 ∧ ¬ t = []
    · rw [hexF_zero _ _ _ h]
      have : 1 ≤ t.length := by
        cases t with
        | nil => exact absurd rfl h.2
        | cons => simp
      omega
    · have e : hexF (f + 1) m t = hexF f (m / 16) (hexD (m % 16) :: t) := if_neg h
      rw [e]
      have hm2 : m / 16 < 16 ^ f := by rw [Nat.pow_succ] at hm; omega
      have := ih (m / 16) (hexD (m % 16) :: t) hm2 (fun q => by simp at q)
      simp only [List.length_cons] at this; omega
theorem hexF_fuel : ∀ f g m (t : List UInt8), m < 16 ^ f → m < 16 ^ g → (t = [] → 1 ≤ f ∧ 1 ≤ g) → hexF f m t = hexF g m t := by
  intro f
  induction f with
  | zero =>
    intro g m t hm hg ht
    have h0 : m = 0 := by simpa using hm
    have hne : ¬ t = [] := fun e => by have := ht e; omega
    rw [hexF_zero g m t ⟨h0, hne⟩]; rfl
  | succ f ih =>
    intro g m t hm hg ht
    by_cases h : m = 0 ∧ ¬ t = []
    · rw [hexF_zero _ _ _ h, hexF_zero _ _ _ h]
    · obtain ⟨g, rfl⟩ : ∃ k, g = k + 1 := ⟨g - 1, by
        cases g with
        | zero =>
          have h0 : m = 0 := by simpa using hg
          have : t = [] := by
            apply Classical.byContradiction; intro q; exact h ⟨h0, q⟩
          have := ht this; omega
        | succ g => omega⟩
      have e : hexF (f + 1) m t = hexF f (m / 16) (hexD (m % 16) :: t) := if_neg h
      have e2 : hexF (g + 1) m t = hexF g (m / 16) (hexD (m % 16) :: t) := if_neg h
      rw [e, e2]
      exact ih g _ _ (by rw [Nat.pow_succ] at hm; omega) (by rw [Nat.pow_succ] at hg; omega) (fun q => by simp at q)
theorem hexL_len (n : Nat) (h : n < 65536) : 1 ≤ (hexL n).length ∧ (hexL n).length ≤ 4 := by
  have e : hexL n = hexF 4 n [] := hexF_fuel 20 4 n [] (by omega) (by omega) (fun _ => by omega)
  rw [e]
  exact hexF_len 4 n [] (by omega) (fun _ => by omega)
theorem decF_len : ∀ f m (t : List UInt8), m < 10 ^ f → (t = [] → 1 ≤ f) → 1 ≤ (decF f m t).length ∧ (decF f m t).length ≤ t.length + f := by
  intro f
  induction f with
  | zero =>
    intro m t hm ht
    have : ¬ t = [] := fun e => by have := ht e; omega
    show 1 ≤ t.length ∧ t.length ≤ t.length + 0
    have : 1 ≤ t.length := by
      cases t with
      | nil => exact absurd rfl this
      | cons => simp
    omega
  | succ f ih =>
    intro m t hm ht
    by_cases h : m = 0 ∧ ¬ t = []
    · rw [decF_zero _ _ _ h]
      have : 1 ≤ t.length := by
        cases t with
        | nil => exact absurd rfl h.2
        | cons => simp
      omega
    · have e : decF (f + 1) m t = decF f (m / 10) (UInt8.ofNat (48 + m % 10) :: t) := if_neg h
      rw [e]
      have hm2 : m / 10 < 10 ^ f := by rw [Nat.pow_succ] at hm; omega
      have := ih (m / 10) (UInt8.ofNat (48 + m % 10) :: t) hm2 (fun q => by simp at q)
      simp only [List.length_cons] at this; omega
theorem decL_bd (n : Nat) (h : n < 1000) : 1 ≤ (decL n).length ∧ (decL n).length ≤ 20 := by
  have := decF_len 20 n [] (by omega) (fun _ => by omega)
  simpa [decL] using this
end Go.Proofs.YtmeaikmmhgmgnaaGreat
namespace Go.Proofs.YtmeaikmmhgmgnaaGreat
open Go.RowKit
set_option linter.unusedSimpArgs false
set_option linter.unusedVariables false

def dotS (x y z u : ByteArray) : ByteArray := x ++ ⟨#[46]⟩ ++ y ++ ⟨#[46]⟩ ++ z ++ ⟨#[46]⟩ ++ u
def octN (x : BitVec 128) (k : Nat) : Nat := (hI x).toNat / 2 ^ (56 - 8 * k) % 256
def text4 (x : BitVec 128) : ByteArray := dotS ⟨(decL (octN x 0)).toArray⟩ ⟨(decL (octN x 1)).toArray⟩ ⟨(decL (octN x 2)).toArray⟩ ⟨(decL (octN x 3)).toArray⟩
theorem and255 (v : Int) (h0 : 0 ≤ v) (h1 : v < 18446744073709551616) : bits .and .u64 v 255 = v % 256 := by
  obtain ⟨n, rfl⟩ := Int.eq_ofNat_of_zero_le h0
  have e1 : (n : Int) = ((BitVec.ofNat 64 n).toNat : Int) := by simp [BitVec.toNat_ofNat]; omega
  have e2 : (255 : Int) = ((BitVec.ofNat 64 255).toNat : Int) := by decide
  rw [e1, e2, bits64and _ _ _ rfl, BitVec.toNat_and, BitVec.toNat_ofNat, BitVec.toNat_ofNat, Nat.mod_eq_of_lt (by omega), show 255 % 2 ^ 64 = 2 ^ 8 - 1 by decide, Nat.and_two_pow_sub_one_eq_mod]
  rfl
theorem rtext_err (F : Int) (x : BitVec 128) (w : World) (h : ¬ rightE F x = 0) :
    Calls Tryz.prog 66 #[.int .i64 F, .agg #[.int .u64 (hI x), .int .u64 (lI x)]] w fun e w' => e = .returned (.tuple #[.string ⟨#[]⟩, .int .i64 (rightE F x)]) ∧ Below w.heap.size w w' := by
  have KR := fun w => rright_any F x w
  have hb : (rightE F x != 0) = true := by simp [h]
  generalize rightE F x = r at *
  go_enter Tryz.func66, Tryz.ntmps66
  go_wp2_with fail
  refine (KR _).mono ?_
  rintro e w1 ⟨rfl, hb1⟩
  have kB := keepb hb1 (bl1 w _)
  clear hb1 KR
  go_wp2
  go_ret2
  exact ⟨rfl, kB⟩

set_option maxHeartbeats 4000000 in
theorem rtext_four (x : BitVec 128) (w : World) (h : rightE 32 x = 0) :
    Calls Tryz.prog 66 #[.int .i64 32, .agg #[.int .u64 (hI x), .int .u64 (lI x)]] w fun e w' => e = .returned (.tuple #[.string (text4 x), .int .i64 0]) ∧ Below w.heap.size w w' := by
  have KR := fun w => rright_any 32 x w
  rw [h] at KR
  have h0 := hI_lo x
  have h1 := hI_up x
  have a1 : hI x / 72057594037927936 = ((octN x 0 : Nat) : Int) := by unfold octN; simp; omega
  have b1 : bits .and .u64 (hI x / 281474976710656) 255 = ((octN x 1 : Nat) : Int) := by rw [and255 _ (by omega) (by omega)]; unfold octN; simp; omega
  have c1 : bits .and .u64 (hI x / 1099511627776) 255 = ((octN x 2 : Nat) : Int) := by rw [and255 _ (by omega) (by omega)]; unfold octN; simp; omega
  have d1 : bits .and .u64 (hI x / 4294967296) 255 = ((octN x 3 : Nat) : Int) := by rw [and255 _ (by omega) (by omega)]; unfold octN; simp; omega
  have lt : ∀ k, octN x k < 256 := fun k => by unfold octN; omega
  have HT : Hid (text4 x = dotS ⟨(decL (octN x 0)).toArray⟩ ⟨(decL (octN x 1)).toArray⟩ ⟨(decL (octN x 2)).toArray⟩ ⟨(decL (octN x 3)).toArray⟩) := rfl
  have lA := lt 0
  have lB := lt 1
  have lC := lt 2
  have lD := lt 3
  have Da := fun w => rdec_any (octN x 0) w (by omega)
  have Db := fun w => rdec_any (octN x 1) w (by omega)
  have Dc := fun w => rdec_any (octN x 2) w (by omega)
  have Dd := fun w => rdec_any (octN x 3) w (by omega)
  have za : (⟨(decL (octN x 0)).toArray⟩ : ByteArray).size ≤ 20 := (decL_bd _ (by omega)).2
  have zb : (⟨(decL (octN x 1)).toArray⟩ : ByteArray).size ≤ 20 := (decL_bd _ (by omega)).2
  have zc : (⟨(decL (octN x 2)).toArray⟩ : ByteArray).size ≤ 20 := (decL_bd _ (by omega)).2
  have zd : (⟨(decL (octN x 3)).toArray⟩ : ByteArray).size ≤ 20 := (decL_bd _ (by omega)).2
  obtain ⟨b, hb⟩ : ∃ b, hI x / 281474976710656 = b := ⟨_, rfl⟩
  obtain ⟨c, hc⟩ : ∃ c, hI x / 1099511627776 = c := ⟨_, rfl⟩
  obtain ⟨d, hd⟩ : ∃ d, hI x / 4294967296 = d := ⟨_, rfl⟩
  rw [hb] at b1; rw [hc] at c1; rw [hd] at d1
  clear lt
  generalize octN x 0 = A at *
  generalize octN x 1 = B at *
  generalize octN x 2 = C at *
  generalize octN x 3 = D at *
  generalize (⟨(decL A).toArray⟩ : ByteArray) = SA at *
  generalize (⟨(decL B).toArray⟩ : ByteArray) = SB at *
  generalize (⟨(decL C).toArray⟩ : ByteArray) = SC at *
  generalize (⟨(decL D).toArray⟩ : ByteArray) = SD at *
  go_enter Tryz.func66, Tryz.ntmps66
  go_wp2_with fail
  refine (KR _).mono ?_
  rintro e w1 ⟨rfl, hb1⟩
  have x0 : w1.cell? ⟨w.heap.size, 0, none⟩ = some (.int .u64 (hI x)) := keepc hb1 (by simp [go_sem])
  have kB := (keepb hb1 (bl1 w _)).drew
  clear hb1 KR
  go_wp2_with fail
  refine q_region (C := (fun w' => w'.cell? ⟨w.heap.size, 0, none⟩ = some (.int .u64 (hI x)) ∧ Below w.heap.size w w')) (by kernel_rfl) (by kernel_rfl) ⟨x0, kB⟩ ?_
  clear x0 kB
  refine q_run (v := .pointer (some ⟨w.heap.size, 0, none⟩)) (by rfl) ?_ ?_
  · (intro w1 hC; obtain ⟨c1, c2⟩ := hC; go_simp; first | done | (simp; done) | (simp [*]; done) | omega | (simp; omega) | (rw [IntKind.wrap_i64]; omega) | rfl)
  simp only [Act.put, List.setIfInBounds_toArray, List.set_cons_zero, List.set_cons_succ]
  refine q_run (v := .int .u64 (hI x)) (by rfl) ?_ ?_
  · (intro w1 hC; obtain ⟨c1, c2⟩ := hC; go_simp; first | done | (simp; done) | (simp [*]; done) | omega | (simp; omega) | (rw [IntKind.wrap_i64]; omega) | rfl)
  simp only [Act.put, List.setIfInBounds_toArray, List.set_cons_zero, List.set_cons_succ]
  refine q_run (v := .int .u64 (A : Int)) (by rfl) ?_ ?_
  · (intro w1 hC; obtain ⟨c1, c2⟩ := hC; go_simp; first | done | (simp; done) | (simp [*]; done) | omega | (simp; omega) | (rw [IntKind.wrap_i64]; omega) | rfl)
  simp only [Act.put, List.setIfInBounds_toArray, List.set_cons_zero, List.set_cons_succ]
  refine q_run (v := .int .i64 (A : Int)) (by rfl) ?_ ?_
  · (intro w1 hC; obtain ⟨c1, c2⟩ := hC; go_simp; first | done | (simp; done) | (simp [*]; done) | omega | (simp; omega) | (rw [IntKind.wrap_i64]; omega) | rfl)
  simp only [Act.put, List.setIfInBounds_toArray, List.set_cons_zero, List.set_cons_succ]
  refine q_call (v := .string SA) (f := 42) (args := #[.int .i64 (A : Int)]) (by rfl) ?_ ?_ ?_
  · (intro w1 hC; obtain ⟨c1, c2⟩ := hC; go_simp)
  · exact fun w1 hC => (Da w1).mono fun e w' ⟨he, hb⟩ => ⟨he, keepc hb hC.1, keepb hb hC.2⟩
  simp only [Act.put, List.setIfInBounds_toArray, List.set_cons_zero, List.set_cons_succ]
  refine q_run (v := .string (SA ++ ⟨#[46]⟩)) (by rfl) ?_ ?_
  · (intro w1 hC; obtain ⟨c1, c2⟩ := hC; go_simp; first | done | (simp; done) | (simp [*]; done) | omega | (simp; omega) | (rw [IntKind.wrap_i64]; omega) | rfl)
  simp only [Act.put, List.setIfInBounds_toArray, List.set_cons_zero, List.set_cons_succ]
  refine q_run (v := .pointer (some ⟨w.heap.size, 0, none⟩)) (by rfl) ?_ ?_
  · (intro w1 hC; obtain ⟨c1, c2⟩ := hC; go_simp; first | done | (simp; done) | (simp [*]; done) | omega | (simp; omega) | (rw [IntKind.wrap_i64]; omega) | rfl)
  simp only [Act.put, List.setIfInBounds_toArray, List.set_cons_zero, List.set_cons_succ]
  refine q_run (v := .int .u64 (hI x)) (by rfl) ?_ ?_
  · (intro w1 hC; obtain ⟨c1, c2⟩ := hC; go_simp; first | done | (simp; done) | (simp [*]; done) | omega | (simp; omega) | (rw [IntKind.wrap_i64]; omega) | rfl)
  simp only [Act.put, List.setIfInBounds_toArray, List.set_cons_zero, List.set_cons_succ]
  refine q_run (v := .int .u64 b) (by rfl) ?_ ?_
  · (intro w1 hC; obtain ⟨c1, c2⟩ := hC; go_simp; first | done | (simp; done) | (simp [*]; done) | omega | (simp; omega) | (rw [IntKind.wrap_i64]; omega) | rfl)
  simp only [Act.put, List.setIfInBounds_toArray, List.set_cons_zero, List.set_cons_succ]
  refine q_run (v := .int .u64 (B : Int)) (by rfl) ?_ ?_
  · (intro w1 hC; obtain ⟨c1, c2⟩ := hC; go_simp; first | done | (simp; done) | (simp [*]; done) | omega | (simp; omega) | (rw [IntKind.wrap_i64]; omega) | rfl)
  simp only [Act.put, List.setIfInBounds_toArray, List.set_cons_zero, List.set_cons_succ]
  refine q_run (v := .int .i64 (B : Int)) (by rfl) ?_ ?_
  · (intro w1 hC; obtain ⟨c1, c2⟩ := hC; go_simp; first | done | (simp; done) | (simp [*]; done) | omega | (simp; omega) | (rw [IntKind.wrap_i64]; omega) | rfl)
  simp only [Act.put, List.setIfInBounds_toArray, List.set_cons_zero, List.set_cons_succ]
  refine q_call (v := .string SB) (f := 42) (args := #[.int .i64 (B : Int)]) (by rfl) ?_ ?_ ?_
  · (intro w1 hC; obtain ⟨c1, c2⟩ := hC; go_simp)
  · exact fun w1 hC => (Db w1).mono fun e w' ⟨he, hb⟩ => ⟨he, keepc hb hC.1, keepb hb hC.2⟩
  simp only [Act.put, List.setIfInBounds_toArray, List.set_cons_zero, List.set_cons_succ]
  refine q_run (v := .string (SA ++ ⟨#[46]⟩ ++ SB)) (by rfl) ?_ ?_
  · (intro w1 hC; obtain ⟨c1, c2⟩ := hC; go_simp; first | done | (simp; done) | (simp [*]; done) | omega | (simp; omega) | (rw [IntKind.wrap_i64]; omega) | rfl)
  simp only [Act.put, List.setIfInBounds_toArray, List.set_cons_zero, List.set_cons_succ]
  refine q_run (v := .string (SA ++ ⟨#[46]⟩ ++ SB ++ ⟨#[46]⟩)) (by rfl) ?_ ?_
  · (intro w1 hC; obtain ⟨c1, c2⟩ := hC; go_simp; first | done | (simp; done) | (simp [*]; done) | omega | (simp; omega) | (rw [IntKind.wrap_i64]; omega) | rfl)
  simp only [Act.put, List.setIfInBounds_toArray, List.set_cons_zero, List.set_cons_succ]
  refine q_run (v := .pointer (some ⟨w.heap.size, 0, none⟩)) (by rfl) ?_ ?_
  · (intro w1 hC; obtain ⟨c1, c2⟩ := hC; go_simp; first | done | (simp; done) | (simp [*]; done) | omega | (simp; omega) | (rw [IntKind.wrap_i64]; omega) | rfl)
  simp only [Act.put, List.setIfInBounds_toArray, List.set_cons_zero, List.set_cons_succ]
  refine q_run (v := .int .u64 (hI x)) (by rfl) ?_ ?_
  · (intro w1 hC; obtain ⟨c1, c2⟩ := hC; go_simp; first | done | (simp; done) | (simp [*]; done) | omega | (simp; omega) | (rw [IntKind.wrap_i64]; omega) | rfl)
  simp only [Act.put, List.setIfInBounds_toArray, List.set_cons_zero, List.set_cons_succ]
  refine q_run (v := .int .u64 c) (by rfl) ?_ ?_
  · (intro w1 hC; obtain ⟨c1, c2⟩ := hC; go_simp; first | done | (simp; done) | (simp [*]; done) | omega | (simp; omega) | (rw [IntKind.wrap_i64]; omega) | rfl)
  simp only [Act.put, List.setIfInBounds_toArray, List.set_cons_zero, List.set_cons_succ]
  refine q_run (v := .int .u64 (C : Int)) (by rfl) ?_ ?_
  · (intro w1 hC; obtain ⟨c1, c2⟩ := hC; go_simp; first | done | (simp; done) | (simp [*]; done) | omega | (simp; omega) | (rw [IntKind.wrap_i64]; omega) | rfl)
  simp only [Act.put, List.setIfInBounds_toArray, List.set_cons_zero, List.set_cons_succ]
  refine q_run (v := .int .i64 (C : Int)) (by rfl) ?_ ?_
  · (intro w1 hC; obtain ⟨c1, c2⟩ := hC; go_simp; first | done | (simp; done) | (simp [*]; done) | omega | (simp; omega) | (rw [IntKind.wrap_i64]; omega) | rfl)
  simp only [Act.put, List.setIfInBounds_toArray, List.set_cons_zero, List.set_cons_succ]
  refine q_call (v := .string SC) (f := 42) (args := #[.int .i64 (C : Int)]) (by rfl) ?_ ?_ ?_
  · (intro w1 hC; obtain ⟨c1, c2⟩ := hC; go_simp)
  · exact fun w1 hC => (Dc w1).mono fun e w' ⟨he, hb⟩ => ⟨he, keepc hb hC.1, keepb hb hC.2⟩
  simp only [Act.put, List.setIfInBounds_toArray, List.set_cons_zero, List.set_cons_succ]
  refine q_run (v := .string (SA ++ ⟨#[46]⟩ ++ SB ++ ⟨#[46]⟩ ++ SC)) (by rfl) ?_ ?_
  · (intro w1 hC; obtain ⟨c1, c2⟩ := hC; go_simp; first | done | (simp; done) | (simp [*]; done) | omega | (simp; omega) | (rw [IntKind.wrap_i64]; omega) | rfl)
  simp only [Act.put, List.setIfInBounds_toArray, List.set_cons_zero, List.set_cons_succ]
  refine q_run (v := .string (SA ++ ⟨#[46]⟩ ++ SB ++ ⟨#[46]⟩ ++ SC ++ ⟨#[46]⟩)) (by rfl) ?_ ?_
  · (intro w1 hC; obtain ⟨c1, c2⟩ := hC; go_simp; first | done | (simp; done) | (simp [*]; done) | omega | (simp; omega) | (rw [IntKind.wrap_i64]; omega) | rfl)
  simp only [Act.put, List.setIfInBounds_toArray, List.set_cons_zero, List.set_cons_succ]
  refine q_run (v := .pointer (some ⟨w.heap.size, 0, none⟩)) (by rfl) ?_ ?_
  · (intro w1 hC; obtain ⟨c1, c2⟩ := hC; go_simp; first | done | (simp; done) | (simp [*]; done) | omega | (simp; omega) | (rw [IntKind.wrap_i64]; omega) | rfl)
  simp only [Act.put, List.setIfInBounds_toArray, List.set_cons_zero, List.set_cons_succ]
  refine q_run (v := .int .u64 (hI x)) (by rfl) ?_ ?_
  · (intro w1 hC; obtain ⟨c1, c2⟩ := hC; go_simp; first | done | (simp; done) | (simp [*]; done) | omega | (simp; omega) | (rw [IntKind.wrap_i64]; omega) | rfl)
  simp only [Act.put, List.setIfInBounds_toArray, List.set_cons_zero, List.set_cons_succ]
  refine q_run (v := .int .u64 d) (by rfl) ?_ ?_
  · (intro w1 hC; obtain ⟨c1, c2⟩ := hC; go_simp; first | done | (simp; done) | (simp [*]; done) | omega | (simp; omega) | (rw [IntKind.wrap_i64]; omega) | rfl)
  simp only [Act.put, List.setIfInBounds_toArray, List.set_cons_zero, List.set_cons_succ]
  refine q_run (v := .int .u64 (D : Int)) (by rfl) ?_ ?_
  · (intro w1 hC; obtain ⟨c1, c2⟩ := hC; go_simp; first | done | (simp; done) | (simp [*]; done) | omega | (simp; omega) | (rw [IntKind.wrap_i64]; omega) | rfl)
  simp only [Act.put, List.setIfInBounds_toArray, List.set_cons_zero, List.set_cons_succ]
  refine q_run (v := .int .i64 (D : Int)) (by rfl) ?_ ?_
  · (intro w1 hC; obtain ⟨c1, c2⟩ := hC; go_simp; first | done | (simp; done) | (simp [*]; done) | omega | (simp; omega) | (rw [IntKind.wrap_i64]; omega) | rfl)
  simp only [Act.put, List.setIfInBounds_toArray, List.set_cons_zero, List.set_cons_succ]
  refine q_call (v := .string SD) (f := 42) (args := #[.int .i64 (D : Int)]) (by rfl) ?_ ?_ ?_
  · (intro w1 hC; obtain ⟨c1, c2⟩ := hC; go_simp)
  · exact fun w1 hC => (Dd w1).mono fun e w' ⟨he, hb⟩ => ⟨he, keepc hb hC.1, keepb hb hC.2⟩
  simp only [Act.put, List.setIfInBounds_toArray, List.set_cons_zero, List.set_cons_succ]
  refine q_run (v := .string (SA ++ ⟨#[46]⟩ ++ SB ++ ⟨#[46]⟩ ++ SC ++ ⟨#[46]⟩ ++ SD)) (by rfl) ?_ ?_
  · (intro w1 hC; obtain ⟨c1, c2⟩ := hC; go_simp; first | done | (simp; done) | (simp [*]; done) | omega | (simp; omega) | (rw [IntKind.wrap_i64]; omega) | rfl)
  simp only [Act.put, List.setIfInBounds_toArray, List.set_cons_zero, List.set_cons_succ]
  refine q_run (v := .string (SA ++ ⟨#[46]⟩ ++ SB ++ ⟨#[46]⟩ ++ SC ++ ⟨#[46]⟩ ++ SD)) (by rfl) ?_ ?_
  · (intro w1 hC; obtain ⟨c1, c2⟩ := hC; go_simp; first | done | (simp; done) | (simp [*]; done) | omega | (simp; omega) | (rw [IntKind.wrap_i64]; omega) | rfl)
  simp only [Act.put, List.setIfInBounds_toArray, List.set_cons_zero, List.set_cons_succ]
  refine q_run (v := .int .i64 0) (by rfl) ?_ ?_
  · (intro w1 hC; obtain ⟨c1, c2⟩ := hC; go_simp; first | done | (simp; done) | (simp [*]; done) | omega | (simp; omega) | (rw [IntKind.wrap_i64]; omega) | rfl)
  simp only [Act.put, List.setIfInBounds_toArray, List.set_cons_zero, List.set_cons_succ]
  refine wpQuiet_nil ?_
  intro w9 hC
  obtain ⟨-, kB⟩ := hC
  go_wp2
  go_ret2
  exact ⟨by rw [HT.out]; rfl, kB⟩
end Go.Proofs.YtmeaikmmhgmgnaaGreat
