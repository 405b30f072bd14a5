/-
  Part 6 of the proof: 3 texts, one behind the other.
-/
import Derived.Test.YtohnhpicjedfeaaPart2
import Derived.Lib.Strings
namespace Go.Proofs.Ytohnhpicjedfeaa
open Go.RowKit
set_option linter.unusedSimpArgs false
set_option linter.unusedVariables false

def hexB (c : Int) : Bool := (decide (48 ≤ c) && decide (c ≤ 57)) || (decide (65 ≤ c) && decide (c ≤ 70)) || (decide (97 ≤ c) && decide (c ≤ 102))
def hexV (c : Int) : Int := if 48 ≤ c ∧ c ≤ 57 then c - 48 else if 65 ≤ c ∧ c ≤ 70 then c + 32 - 97 + 10 else if 97 ≤ c ∧ c ≤ 102 then c - 97 + 10 else 0
theorem hex_ways (c : Int) : (c < 48 ∧ hexB c = false ∧ hexV c = 0) ∨ (48 ≤ c ∧ c ≤ 57 ∧ hexB c = true ∧ hexV c = c - 48) ∨ (57 < c ∧ c < 65 ∧ hexB c = false ∧ hexV c = 0) ∨ (65 ≤ c ∧ c ≤ 70 ∧ hexB c = true ∧ hexV c = c + 32 - 97 + 10) ∨ (70 < c ∧ c < 97 ∧ hexB c = false ∧ hexV c = 0) ∨ (97 ≤ c ∧ c ≤ 102 ∧ hexB c = true ∧ hexV c = c - 97 + 10) ∨ (102 < c ∧ hexB c = false ∧ hexV c = 0) := by
  unfold hexB hexV
  by_cases h1 : c < 48
  · left
    have a1 : ¬ 48 ≤ c := by omega
    have a2 : ¬ 97 ≤ c := by omega
    have a3 : ¬ 65 ≤ c := by omega
    simp [a1, a2, a3, h1]
  by_cases h2 : c ≤ 57
  · right; left
    have a1 : 48 ≤ c := by omega
    simp [a1, h2]
  by_cases h3 : c < 65
  · right; right; left
    have a2 : ¬ 97 ≤ c := by omega
    have a3 : ¬ 65 ≤ c := by omega
    simp [h2, a2, a3, h3]; omega
  by_cases h4 : c ≤ 70
  · right; right; right; left
    have a3 : 65 ≤ c := by omega
    simp [h2, a3, h4]
  by_cases h5 : c < 97
  · right; right; right; right; left
    have a2 : ¬ 97 ≤ c := by omega
    simp [h2, a2, h4, h5]; omega
  by_cases h6 : c ≤ 102
  · right; right; right; right; right; left
    have a2 : 97 ≤ c := by omega
    simp [h2, a2, h4, h6]
  · right; right; right; right; right; right
    simp [h2, h4, h6]; omega
theorem hexV_bd (c : Int) : 0 ≤ hexV c ∧ hexV c ≤ 15 := by
  rcases hex_ways c with ⟨a, p, q⟩ | ⟨a, b, p, q⟩ | ⟨a, b, p, q⟩ | ⟨a, b, p, q⟩ | ⟨a, b, p, q⟩ | ⟨a, b, p, q⟩ | ⟨a, p, q⟩ <;> rw [q] <;> omega

set_option maxHeartbeats 1000000 in
theorem adigit_any (c : Int) (w : World) (h0 : 0 ≤ c) (h1 : c ≤ 255) :
    Calls Try.prog 105 #[.int .u8 c] w fun e w' => e = .returned (.tuple #[.int .u64 (hexV c), .bool (hexB c)]) ∧ w' = w := by
  rcases hex_ways c with ⟨a, p, q⟩ | ⟨a, b, p, q⟩ | ⟨a, b, p, q⟩ | ⟨a, b, p, q⟩ | ⟨a, b, p, q⟩ | ⟨a, b, p, q⟩ | ⟨a, p, q⟩
  all_goals
    rw [p, q]
    clear p q
    go_enter Try.func105, Try.ntmps105
    go_wp2
    go_ret2
  all_goals exact ⟨rfl, rfl⟩

theorem or4 (v d : Int) (h0 : 0 ≤ v) (h1 : v < 1152921504606846976) (d0 : 0 ≤ d) (d1 : d ≤ 15) : bits .or .u64 (IntKind.u64.wrap (v * 16)) d = 16 * v + d := by
  obtain ⟨n, rfl⟩ := Int.eq_ofNat_of_zero_le h0
  obtain ⟨m, rfl⟩ := Int.eq_ofNat_of_zero_le d0
  have e1 : IntKind.u64.wrap ((n : Int) * 16) = ((BitVec.ofNat 64 (n * 16)).toNat : Int) := by
    simp [IntKind.wrap, IntKind.bits, IntKind.signed, BitVec.toNat_ofNat]
  have e2 : (m : Int) = ((BitVec.ofNat 64 m).toNat : Int) := by
    simp [BitVec.toNat_ofNat]; omega
  rw [e1, e2, bits64or _ _ _ rfl, BitVec.toNat_or, BitVec.toNat_ofNat, BitVec.toNat_ofNat, Nat.mod_eq_of_lt (by omega), Nat.mod_eq_of_lt (by omega)]
  have := Nat.shiftLeft_add_eq_or_of_lt (b := m) (i := 4) (by omega) n
  rw [Nat.shiftLeft_eq] at this
  rw [show n * 16 = n * 2 ^ 4 from rfl, ← this]; omega

def grpR (t : ByteArray) : Nat → Nat → Int → Int × Int
  | 0, k, v => (v, k)
  | f + 1, k, v => if k < t.size ∧ hexB (byteAt t k) = true then grpR t f (k + 1) (16 * v + hexV (byteAt t k)) else (v, k)
def grpV (t : ByteArray) : Int := (grpR t 4 0 0).1
def grpN (t : ByteArray) : Int := (grpR t 4 0 0).2

set_option maxHeartbeats 1000000 in
theorem group_any (t : ByteArray) (w : World) (hs : t.size ≤ maxLen) :
    Calls Try.prog 94 #[.string t] w fun e w' => e = .returned (.tuple #[.int .u64 (grpV t), .int .i64 (grpN t)]) ∧ w' = w := by
  unfold maxLen at hs
  go_enter Try.func94, Try.ntmps94
  go_wp2
  go_loopw [2, 3] (fun a b wr => ∃ (k : Nat) (v : Int), a = .int .u64 v ∧ b = .int .i64 k ∧ k ≤ 4 ∧ k ≤ t.size ∧ 0 ≤ v ∧ Hid (v < 16 ^ k) ∧ Hid (grpR t (4 - k) k v = grpR t 4 0 0) ∧ wr = w) (fun _ b _ => 4 - (intOf b).toNat)
  case atStart => exact ⟨0, 0, rfl, rfl, by omega, by omega, by omega, by show (0 : Int) < 1; omega, rfl, rfl⟩
  case round =>
    obtain ⟨k, v, rfl, rfl, hk, hkt, v0, HV, HR, rfl⟩ := hrel
    by_cases hlt : k < t.size
    · have hk2 : (k : Int) < (t.size : Int) := by omega
      by_cases hk4 : k < 4
      · have hk5 : (k : Int) < 4 := by omega
        have hbt := byteAt_in t k hlt
        have bd := byteAt_bd t k
        have HU : Hid (4 - k = (4 - (k + 1)) + 1) := by show _ = _; omega
        have HS : Hid (∀ f, grpR t (f + 1) k v = if k < t.size ∧ hexB (byteAt t k) = true then grpR t f (k + 1) (16 * v + hexV (byteAt t k)) else (v, k)) := fun _ => rfl
        generalize byteAt t k = c at *
        have KD := fun w => adigit_any c w bd.1 bd.2
        have db := hexV_bd c
        have HP : Hid ((16 : Int) ^ k ≤ 16 ^ 3) := by
          show _ ≤ _
          rcases (by omega : k = 0 ∨ k = 1 ∨ k = 2 ∨ k = 3) with rfl | rfl | rfl | rfl <;> decide
        have hor := or4 v (hexV c) v0 (by have := HV.out; have := HP.out; omega) db.1 db.2
        cases hd : hexB c
        · have HF : Hid (grpV t = v ∧ grpN t = (k : Int)) := by
            show _ ∧ _
            unfold grpV grpN; rw [← HR.out, HU.out, HS.out, if_neg (by simp [hd])]; exact ⟨rfl, rfl⟩
          rw [hd] at KD
          clear HR HU HS HP HV hd
          go_wp2_with fail
          refine (KD _).mono ?_
          rintro e w1 ⟨rfl, rfl⟩
          clear KD
          go_wp2
          go_ret2
          exact ⟨by rw [HF.out.1, HF.out.2]; rfl, rfl⟩
        · have HF : Hid (grpR t (4 - (k + 1)) (k + 1) (16 * v + hexV c) = grpR t 4 0 0) := by
            show _ = _
            rw [← HR.out, HU.out, HS.out, if_pos ⟨hlt, hd⟩]
          have HV2 : Hid (16 * v + hexV c < 16 ^ (k + 1)) := by
            show _ < _
            have := HV.out
            rw [Int.pow_succ]; omega
          rw [hd] at KD
          clear HR HU HS HP HV hd
          generalize hexV c = d at *
          go_wp2_with fail
          refine (KD _).mono ?_
          rintro e w1 ⟨rfl, rfl⟩
          clear KD
          go_wp2
          go_roundw
          case rel => exact ⟨k + 1, 16 * v + d, rfl, by go_num, by omega, by omega, by omega, HV2, HF, trivial⟩
          case measure => simp [intOf]; omega
      · have HF : Hid (grpV t = v ∧ grpN t = (k : Int)) := by
          show _ ∧ _
          have e : k = 4 := by omega
          subst e
          unfold grpV grpN; rw [← HR.out]; exact ⟨rfl, rfl⟩
        clear HR HV
        have e : k = 4 := by omega
        subst e
        go_wp2
        go_ret2
        exact ⟨by rw [HF.out.1, HF.out.2]; rfl, rfl⟩
    · have HF : Hid (grpV t = v ∧ grpN t = (k : Int)) := by
        show _ ∧ _
        have hn : ∀ f, grpR t f k v = (v, (k : Int)) := by
          intro f; cases f with
          | zero => rfl
          | succ f => show (if _ then _ else _) = _; rw [if_neg (by simp [hlt])]
        unfold grpV grpN; rw [← HR.out, hn]; exact ⟨rfl, rfl⟩
      clear HR HV
      go_wp2
      go_ret2
      exact ⟨by rw [HF.out.1, HF.out.2]; rfl, rfl⟩

set_option maxHeartbeats 1000000 in
theorem hasP_any (t p : ByteArray) (w : World) (hs : t.size ≤ maxLen) (hp : p.size ≤ 2) :
    Calls Try.prog 93 #[.string t, .string p] w fun e w' => e = .returned (.bool (decide (p.size ≤ t.size) && ((t.extract 0 p.size).toList == p.toList))) ∧ w' = w := by
  unfold maxLen at hs
  by_cases h : p.size ≤ t.size
  · have h2 : (p.size : Int) ≤ (t.size : Int) := by omega
    go_enter Try.func93, Try.ntmps93
    go_wp2_with go_in
    go_ret
    exact ⟨by simp [h], rfl⟩
  · have h2 : ¬ (p.size : Int) ≤ (t.size : Int) := by omega
    go_enter Try.func93, Try.ntmps93
    go_wp2_with go_in
    go_ret
    exact ⟨by simp [h], rfl⟩

theorem byteAt_list (l : List UInt8) (k : Nat) : byteAt ⟨l.toArray⟩ k = match l[k]? with | some c => (c.toNat : Int) | none => 0 := by
  unfold byteAt
  have e : (⟨l.toArray⟩ : ByteArray).size = l.length := rfl
  by_cases h : k < l.length
  · rw [dif_pos (by rw [e]; exact h), List.getElem?_eq_getElem h]; rfl
  · rw [dif_neg (by rw [e]; exact h), List.getElem?_eq_none (by omega)]
theorem byteAt_ext (s : ByteArray) (a k : Nat) : byteAt (s.extract a s.size) k = byteAt s (a + k) := by
  unfold byteAt
  by_cases h : a + k < s.size
  · have h2 : k < (s.extract a s.size).size := by simp; omega
    rw [dif_pos h, dif_pos h2]
    congr 2
    rw [ByteArray.getElem_extract]
  · have h2 : ¬ k < (s.extract a s.size).size := by simp; omega
    rw [dif_neg h, dif_neg h2]
theorem u8_of (c : UInt8) (n : Nat) (h : n < 256) : ((c.toNat : Int) = (n : Int)) ↔ c = UInt8.ofNat n := by
  constructor
  · intro e
    apply UInt8.toNat.inj
    rw [UInt8.toNat_ofNat']; omega
  · intro e
    rw [e, UInt8.toNat_ofNat']; omega
theorem hasP1 (t : ByteArray) (c : Nat) (w : World) (hs : t.size ≤ maxLen) (h0 : 0 < c) (h1 : c < 256) :
    Calls Try.prog 93 #[.string t, .string ⟨#[UInt8.ofNat c]⟩] w fun e w' => e = .returned (.bool (decide (byteAt t 0 = c))) ∧ w' = w := by
  have h := hasP_any t ⟨#[UInt8.ofNat c]⟩ w hs (by show 1 ≤ 2; omega)
  rw [Lib.hasPrefix_raw] at h
  have e : Lib.hasPrefix t.data.toList (⟨#[UInt8.ofNat c]⟩ : ByteArray).data.toList = decide (byteAt t 0 = c) := by
    rw [← Lib.mk_data t, byteAt_list]
    cases t.data.toList with
    | nil => simp [Lib.hasPrefix]; omega
    | cons x l =>
      have u := u8_of x c h1
      rw [Bool.eq_iff_iff]
      simp [Lib.hasPrefix, List.isPrefixOf, u]
      exact eq_comm
  rw [e] at h; exact h
theorem hasP2 (t : ByteArray) (w : World) (hs : t.size ≤ maxLen) :
    Calls Try.prog 93 #[.string t, .string ⟨#[58, 58]⟩] w fun e w' => e = .returned (.bool (decide (byteAt t 0 = 58 ∧ byteAt t 1 = 58))) ∧ w' = w := by
  have h := hasP_any t ⟨#[58, 58]⟩ w hs (by decide)
  rw [Lib.hasPrefix_raw] at h
  have e : Lib.hasPrefix t.data.toList (⟨#[58, 58]⟩ : ByteArray).data.toList = decide (byteAt t 0 = 58 ∧ byteAt t 1 = 58) := by
    rw [← Lib.mk_data t, byteAt_list, byteAt_list]
    cases t.data.toList with
    | nil => simp [Lib.hasPrefix]
    | cons x l =>
      have u := u8_of x 58 (by decide)
      cases l with
      | nil => simp [Lib.hasPrefix, List.isPrefixOf]
      | cons y l =>
        have v := u8_of y 58 (by decide)
        have u' : ((x.toNat : Int) = 58) ↔ x = 58 := u
        have v' : ((y.toNat : Int) = 58) ↔ y = 58 := v
        rw [Bool.eq_iff_iff]
        simp [Lib.hasPrefix, List.isPrefixOf, u', v']
        rw [eq_comm (a := x), eq_comm (a := y)]
  rw [e] at h; exact h
end Go.Proofs.Ytohnhpicjedfeaa
namespace Go.Proofs.Ytohnhpicjedfeaa
open Go.RowKit
set_option linter.unusedSimpArgs false
set_option linter.unusedVariables false

def Fnd (w : World) (B : Nat) (f : Nat → Int) (c : Nat) (p : Int) : Prop :=
  (∀ i, i < 8 → w.cell? ⟨B, i, none⟩ = some (.int .u64 (f i)) ∧ w.frozen? ⟨B, i, none⟩ = false) ∧ w.cell? ⟨B, 8, none⟩ = some (.int .i64 c) ∧ w.frozen? ⟨B, 8, none⟩ = false ∧ w.cell? ⟨B, 9, none⟩ = some (.int .i64 p) ∧ w.frozen? ⟨B, 9, none⟩ = false ∧ B < w.heap.size
def upd (f : Nat → Int) (c : Nat) (v : Int) : Nat → Int := fun i => if i = c then v else f i
theorem Fnd.below {w w' : World} {B : Nat} {f : Nat → Int} {c : Nat} {p : Int} (h : Fnd w B f c p) (hb : Below w.heap.size w w') : Fnd w' B f c p := by
  obtain ⟨h1, h2, h3, h4, h5, h6⟩ := h
  exact ⟨fun i hi => ⟨keepc hb (h1 i hi).1, keepf hb (h1 i hi).1 (h1 i hi).2⟩, keepc hb h2, keepf hb h2 h3, keepc hb h4, keepf hb h4 h5, Nat.lt_of_lt_of_le h6 hb.size⟩

def Only (B : Nat) (w w' : World) : Prop := w'.heap.size = w.heap.size ∧ ∀ C o, ¬ C = B → w'.cell? ⟨C, o, none⟩ = w.cell? ⟨C, o, none⟩ ∧ w'.frozen? ⟨C, o, none⟩ = w.frozen? ⟨C, o, none⟩
theorem At.only {w w' : World} {B C : Nat} {x : BitVec 128} (h : At w C x) (ho : Only B w w') (hn : ¬ C = B) : At w' C x := by
  obtain ⟨h0, h1, h2, h3, h4⟩ := h
  exact ⟨by rw [(ho.2 C 0 hn).1]; exact h0, by rw [(ho.2 C 1 hn).1]; exact h1, by rw [(ho.2 C 0 hn).2]; exact h2, by rw [(ho.2 C 1 hn).2]; exact h3, by rw [ho.1]; exact h4⟩

set_option maxHeartbeats 2000000 in
theorem fadd_any (B : Nat) (f : Nat → Int) (c : Nat) (p v : Int) (w : World) (hF : Fnd w B f c p) (hc : c ≤ 7) :
    Calls Try.prog 96 #[.pointer (some ⟨B, 0, none⟩), .int .u64 v] w fun e w' => e = .returned (.bool true) ∧ Fnd w' B (upd f c v) (c + 1) p ∧ Below B w w' ∧ Only B w w' := by
  obtain ⟨h1, h2, h3, h4, h5, h6⟩ := hF
  have hc8 : ¬ (c : Int) = 8 := by omega
  have hcb : ((c : Int) == 8) = false := by simp; omega
  have hcl : (c : Int) < 8 := by omega
  have ⟨k1, k2⟩ := h1 c (by omega)
  have n8 : ¬ c = 8 := by omega
  have n9 : ¬ c = 9 := by omega
  have e8 : (w.setCell ⟨B, c, none⟩ (.int .u64 v)).cell? ⟨B, 8, none⟩ = some (.int .i64 c) := by simp [go_sem, *]
  have f8 : (w.setCell ⟨B, c, none⟩ (.int .u64 v)).frozen? ⟨B, 8, none⟩ = false := by simp [go_sem, *]
  have hF' : Fnd (((w.setCell ⟨B, c, none⟩ (.int .u64 v)).setCell ⟨B, 8, none⟩ (.int .i64 ((c : Int) + 1))).drew) B (upd f c v) (c + 1) p := by
    refine ⟨fun i hi => ?_, ?_, ?_, ?_, ?_, ?_⟩
    · have n : ¬ i = 8 := by omega
      have n' : ¬ 8 = i := by omega
      obtain ⟨q1, q2⟩ := h1 i hi
      by_cases hic : i = c
      · subst hic
        simp [go_sem, upd, *]
      · have hci : ¬ c = i := fun e => hic e.symm
        simp [go_sem, upd, *]
    all_goals simp [go_sem, *]
  have hB' : Below B w (((w.setCell ⟨B, c, none⟩ (.int .u64 v)).setCell ⟨B, 8, none⟩ (.int .i64 ((c : Int) + 1))).drew) := (((Below.refl B w).setCell (p := ⟨B, c, none⟩) (Nat.le_refl _) _).setCell (p := ⟨B, 8, none⟩) (Nat.le_refl _) _).drew
  have hO' : Only B w (((w.setCell ⟨B, c, none⟩ (.int .u64 v)).setCell ⟨B, 8, none⟩ (.int .i64 ((c : Int) + 1))).drew) := by
    refine ⟨by simp, fun C o hn => ?_⟩
    have hn' : ¬ B = C := fun e => hn e.symm
    simp [go_sem, hn, hn']
  clear h1
  go_enter Try.func96, Try.ntmps96
  go_wp2
  go_region
  go_wp2
  go_ret
  exact ⟨rfl, hF', hB', hO'⟩

theorem fadd_full (B : Nat) (f : Nat → Int) (p v : Int) (w : World) (hF : Fnd w B f 8 p) :
    Calls Try.prog 96 #[.pointer (some ⟨B, 0, none⟩), .int .u64 v] w fun e w' => e = .returned (.bool false) ∧ w' = w := by
  obtain ⟨h1, h2, h3, h4, h5, h6⟩ := hF
  have h2' : w.cell? ⟨B, 8, none⟩ = some (.int .i64 8) := h2
  clear h1 h2
  go_enter Try.func96, Try.ntmps96
  go_wp2
  go_ret
  exact ⟨rfl, rfl⟩

def plc (c : Nat) (p : Int) (k : Nat) : Int := if ¬ p = -1 ∧ p ≤ k then (k : Int) + (8 - c) else k
def sixW (f : Nat → Int) (c : Nat) (p : Int) : Nat → BitVec 128
  | 0 => 0#128
  | k + 1 => layW (sixW f c p k) (plc c p k) 16 (f k)
def finV (f : Nat → Int) (c : Nat) (p : Int) : BitVec 128 := if (p = -1) = (c = 8) then sixW f c p c else 0#128
def finB (c : Nat) (p : Int) : Bool := decide ((p = -1) = (c = 8))

theorem Fnd.other {w : World} {B C : Nat} {f : Nat → Int} {c : Nat} {p : Int} (h : Fnd w B f c p) (hn : ¬ C = B) (u v : Value) : Fnd ((w.setCell ⟨C, 0, none⟩ u).setCell ⟨C, 1, none⟩ v) B f c p := by
  obtain ⟨h1, h2, h3, h4, h5, h6⟩ := h
  have hn' : ¬ B = C := fun e => hn e.symm
  refine ⟨fun i hi => ?_, ?_, ?_, ?_, ?_, ?_⟩
  · obtain ⟨q1, q2⟩ := h1 i hi
    simp [go_sem, *]
  all_goals simp [go_sem, *]

set_option maxHeartbeats 2000000 in
theorem fword_any (B : Nat) (f : Nat → Int) (c : Nat) (p : Int) (w : World) (hF : Fnd w B f c p) (hc : c ≤ 8) (hp : -1 ≤ p) (hp2 : p ≤ 8) (hf : ∀ i, 0 ≤ f i ∧ f i ≤ 65535) :
    Calls Try.prog 97 #[.pointer (some ⟨B, 0, none⟩)] w fun e w' => e = .returned (.tuple #[.agg #[.int .u64 (hI (finV f c p)), .int .u64 (lI (finV f c p))], .bool (finB c p)]) ∧ Below w.heap.size w w' := by
  have hF' := hF
  obtain ⟨h1, h2, h3, h4, h5, h6⟩ := hF
  have d0 : ¬ w.heap.size = B := by omega
  by_cases hq : (p = -1) = (c = 8)
  · have HF : Hid (finV f c p = sixW f c p c ∧ finB c p = true) := by
      show _ ∧ _
      unfold finV finB; rw [if_pos hq]; exact ⟨rfl, by simp [hq]⟩
    have hq2 : ((p == -1) == ((c : Int) == 8)) = true := by
      by_cases hp1 : p = -1
      · have : c = 8 := by rw [← hq]; exact hp1
        subst this; subst hp1; rfl
      · have h8 : ¬ c = 8 := by rw [← hq]; exact hp1
        have e1 : (p == -1) = false := by simp [hp1]
        have e2 : ((c : Int) == 8) = false := by simp; omega
        rw [e1, e2]; rfl
    clear hq
    obtain ⟨b, hpb⟩ : ∃ b, (p == -1) = b := ⟨_, rfl⟩
    rw [hpb] at hq2
    have c0 : (0 : Int) ≤ (c : Int) := by omega
    have c8 : (c : Int) ≤ 8 := by omega
    go_enter Try.func97, Try.ntmps97
    go_wp2
    go_region
    go_wp2
    go_region
    go_wp2
    go_loopw [28] (fun q wr => ∃ k : Nat, k ≤ c ∧ q = .int .i64 k ∧ At wr (w.heap.size + 1) (sixW f c p k) ∧ At wr w.heap.size 0#128 ∧ Fnd wr B f c p ∧ Below w.heap.size w wr) (fun q _ => c - (intOf q).toNat)
    case atStart =>
      refine ⟨0, by omega, rfl, ?_, ?_, ?_, (bl2 w _ _).drew.drew⟩
      · show At _ _ 0#128
        refine ⟨?_, ?_, ?_, ?_, ?_⟩ <;> simp [go_sem, hI_zero, lI_zero]
      · refine ⟨?_, ?_, ?_, ?_, ?_⟩ <;> simp [go_sem, hI_zero, lI_zero]
      · exact hF'.below (bl2 w _ _).drew.drew
    case round =>
      obtain ⟨k, hk, rfl, hA, hZ, hG, hB⟩ := hrel
      clear h1 h2 h3 h4 h5 hF'
      obtain ⟨h1, h2, h3, h4, h5, h6'⟩ := id hG
      by_cases hlt : k < c
      · have hlt2 : (k : Int) < (c : Int) := by omega
        have hk8 : (k : Int) < 8 := by omega
        obtain ⟨l1, l2⟩ := h1 k (by omega)
        obtain ⟨f0, f1⟩ := hf k
        obtain ⟨a0, a1, a2, a3, a4⟩ := id hA
        have HW : Hid (sixW f c p (k + 1) = layW (sixW f c p k) (plc c p k) 16 (f k)) := rfl
        have hpl : 0 ≤ plc c p k ∧ plc c p k ≤ 16 := by unfold plc; split <;> omega
        have HPL : Hid (plc c p k = if ¬ p = -1 ∧ p ≤ k then (k : Int) + (8 - c) else k) := rfl
        have KP := fun w => aput_any (sixW f c p k) (plc c p k) 16 (f k) w f0 (by omega) hpl.1 hpl.2 (by omega) (by omega)
        generalize sixW f c p k = x at *
        generalize plc c p k = pl at *
        generalize f k = v at *
        clear h1 hf
        by_cases hp1 : p = -1
        · have hpk : pl = k := by rw [HPL.out, if_neg (by simp [hp1])]
          subst hpk
          have hne : (p != -1) = false := by simp [hp1]
          clear HPL hp1
          go_wp2_with fail
          refine (KP _).mono ?_
          rintro e w2 ⟨rfl, hb2⟩
          clear KP
          have hA2 := (hA.below hb2).set (layW x (k : Int) 16 v)
          have hZ2 := (hZ.below hb2).other (.int .u64 (hI (layW x (k : Int) 16 v))) (.int .u64 (lI (layW x (k : Int) 16 v))) (C := w.heap.size + 1) (by omega)
          have hG2 := (hG.below hb2).other (C := w.heap.size + 1) (by omega) (.int .u64 (hI (layW x (k : Int) 16 v))) (.int .u64 (lI (layW x (k : Int) 16 v)))
          have hB2 := bset2 (keepb hb2 hB) (C := w.heap.size + 1) (by omega) (.int .u64 (hI (layW x (k : Int) 16 v))) (.int .u64 (lI (layW x (k : Int) 16 v)))
          obtain ⟨b0, b1, b2, b3, b4⟩ := hA.below hb2
          clear hA hZ hB hG hb2 a0 a1 a2 a3 a4 h2 h3 h4 h5 l1 l2
          go_wp2
          go_roundw
          case rel => exact ⟨k + 1, by omega, by go_num, by rw [HW.out]; exact hA2, hZ2, hG2, hB2⟩
          case measure => simp [intOf]; omega
        · have hne : (p != -1) = true := by simp [hp1]
          by_cases hpk : p ≤ k
          · have hpk' : pl = (k : Int) + (8 - c) := by rw [HPL.out, if_pos ⟨hp1, hpk⟩]
            subst hpk'
            clear HPL hp1
            go_wp2_with fail
            refine (KP _).mono ?_
            rintro e w2 ⟨rfl, hb2⟩
            clear KP
            have hA2 := (hA.below hb2).set (layW x ((k : Int) + (8 - c)) 16 v)
            have hZ2 := (hZ.below hb2).other (.int .u64 (hI (layW x ((k : Int) + (8 - c)) 16 v))) (.int .u64 (lI (layW x ((k : Int) + (8 - c)) 16 v))) (C := w.heap.size + 1) (by omega)
            have hG2 := (hG.below hb2).other (C := w.heap.size + 1) (by omega) (.int .u64 (hI (layW x ((k : Int) + (8 - c)) 16 v))) (.int .u64 (lI (layW x ((k : Int) + (8 - c)) 16 v)))
            have hB2 := bset2 (keepb hb2 hB) (C := w.heap.size + 1) (by omega) (.int .u64 (hI (layW x ((k : Int) + (8 - c)) 16 v))) (.int .u64 (lI (layW x ((k : Int) + (8 - c)) 16 v)))
            obtain ⟨b0, b1, b2, b3, b4⟩ := hA.below hb2
            clear hA hZ hB hG hb2 a0 a1 a2 a3 a4 h2 h3 h4 h5 l1 l2
            go_wp2
            go_roundw
            case rel => exact ⟨k + 1, by omega, by go_num, by rw [HW.out]; exact hA2, hZ2, hG2, hB2⟩
            case measure => simp [intOf]; omega
          · have hpk' : pl = k := by rw [HPL.out, if_neg (by simp [hpk])]
            subst hpk'
            clear HPL hp1
            go_wp2_with fail
            refine (KP _).mono ?_
            rintro e w2 ⟨rfl, hb2⟩
            clear KP
            have hA2 := (hA.below hb2).set (layW x (k : Int) 16 v)
            have hZ2 := (hZ.below hb2).other (.int .u64 (hI (layW x (k : Int) 16 v))) (.int .u64 (lI (layW x (k : Int) 16 v))) (C := w.heap.size + 1) (by omega)
            have hG2 := (hG.below hb2).other (C := w.heap.size + 1) (by omega) (.int .u64 (hI (layW x (k : Int) 16 v))) (.int .u64 (lI (layW x (k : Int) 16 v)))
            have hB2 := bset2 (keepb hb2 hB) (C := w.heap.size + 1) (by omega) (.int .u64 (hI (layW x (k : Int) 16 v))) (.int .u64 (lI (layW x (k : Int) 16 v)))
            obtain ⟨b0, b1, b2, b3, b4⟩ := hA.below hb2
            clear hA hZ hB hG hb2 a0 a1 a2 a3 a4 h2 h3 h4 h5 l1 l2
            go_wp2
            go_roundw
            case rel => exact ⟨k + 1, by omega, by go_num, by rw [HW.out]; exact hA2, hZ2, hG2, hB2⟩
            case measure => simp [intOf]; omega
      · have hkc : k = c := by omega
        subst hkc
        obtain ⟨a0, a1, a2, a3, a4⟩ := hA
        obtain ⟨z0, z1, z2, z3, z4⟩ := hZ
        clear h1 hf hG
        go_wp2
        exact bodyPost_ret (v := .tuple #[.agg #[.int .u64 (hI (sixW f k p k)), .int .u64 (lI (sixW f k p k))], .bool true]) (by simp [results, Try.results97, go_sem, *]) rfl ⟨by rw [HF.out.1, HF.out.2], bset2 hB (Nat.le_refl _) _ _⟩
  · have HF : Hid (finV f c p = 0#128 ∧ finB c p = false) := by
      show _ ∧ _
      unfold finV finB; rw [if_neg hq]; exact ⟨rfl, by simp only [decide_eq_false_iff_not]; exact hq⟩
    have hq2 : ((p == -1) == ((c : Int) == 8)) = false := by
      by_cases hp1 : p = -1
      · have h8 : ¬ c = 8 := fun e => hq (by simp [hp1, e])
        have e1 : (p == -1) = true := by simp [hp1]
        have e2 : ((c : Int) == 8) = false := by simp; omega
        rw [e1, e2]; rfl
      · have h8 : c = 8 := by
          apply Classical.byContradiction; intro e; exact hq (by simp [hp1, e])
        have e1 : (p == -1) = false := by simp [hp1]
        have e2 : ((c : Int) == 8) = true := by simp; omega
        rw [e1, e2]; rfl
    clear hq h1 hf
    go_enter Try.func97, Try.ntmps97
    go_wp2
    go_region
    go_wp2
    exact bodyPost_ret (v := .tuple #[.agg #[.int .u64 0, .int .u64 0], .bool false]) (by simp [results, Try.results97, go_sem, *]) rfl ⟨by rw [HF.out.1, HF.out.2, hI_zero, lI_zero], (bl1 w _).drew⟩
end Go.Proofs.Ytohnhpicjedfeaa
namespace Go.Proofs.Ytohnhpicjedfeaa
open Go.RowKit
set_option linter.unusedSimpArgs false
set_option linter.unusedVariables false

def quadA (s : ByteArray) : Int := lI ((fourV s <<< (16 * (0 : Int)).toNat) >>> (128 - (16 : Int)).toNat)
def quadB (s : ByteArray) : Int := lI ((fourV s <<< (16 * (1 : Int)).toNat) >>> (128 - (16 : Int)).toNat)
theorem part16_bd (x : BitVec 128) (i : Int) : 0 ≤ lI ((x <<< (16 * i).toNat) >>> (128 - (16 : Int)).toNat) ∧ lI ((x <<< (16 * i).toNat) >>> (128 - (16 : Int)).toNat) ≤ 65535 := by
  generalize x <<< (16 * i).toNat = y
  refine ⟨lI_lo _, ?_⟩
  unfold lI lv
  rw [BitVec.extractLsb'_toNat]
  have : (y >>> (128 - (16 : Int)).toNat).toNat < 65536 := by
    rw [BitVec.toNat_ushiftRight, show (128 - (16 : Int)).toNat = 112 from rfl, Nat.shiftRight_eq_div_pow]
    have := y.isLt
    omega
  rw [Nat.shiftRight_zero, Nat.mod_eq_of_lt (by omega)]
  omega
theorem quadA_bd (s : ByteArray) : 0 ≤ quadA s ∧ quadA s ≤ 65535 := part16_bd _ _
theorem quadB_bd (s : ByteArray) : 0 ≤ quadB s ∧ quadB s ≤ 65535 := part16_bd _ _

theorem partA (s : ByteArray) (w : World) :
    Calls Try.prog 106 #[.agg #[.int .u64 (hI (fourV s)), .int .u64 (lI (fourV s))], .int .i64 0, .int .i64 16] w fun e w' => e = .returned (.int .u64 (quadA s)) ∧ Below w.heap.size w w' :=
  part_any (fourV s) 0 16 w (by omega) (by omega) (by omega) (by omega)
theorem partB (s : ByteArray) (w : World) :
    Calls Try.prog 106 #[.agg #[.int .u64 (hI (fourV s)), .int .u64 (lI (fourV s))], .int .i64 1, .int .i64 16] w fun e w' => e = .returned (.int .u64 (quadB s)) ∧ Below w.heap.size w w' :=
  part_any (fourV s) 1 16 w (by omega) (by omega) (by omega) (by omega)

set_option maxHeartbeats 2000000 in
theorem addFour_no (B : Nat) (s : ByteArray) (w : World) (hs : s.size ≤ maxLen) (h : fourB s = false) (hB : B < w.heap.size) :
    Calls Try.prog 95 #[.pointer (some ⟨B, 0, none⟩), .string s] w fun e w' => e = .returned (.bool false) ∧ Below B w w' := by
  have KR := fun w => readFour_any s w hs
  rw [h] at KR
  generalize fourV s = x at *
  go_enter Try.func95, Try.ntmps95
  go_wp2_with fail
  refine (KR _).mono ?_
  rintro e w1 ⟨rfl, hb1⟩
  clear KR
  go_wp2
  go_ret
  exact ⟨rfl, (hb1.alloc hb1.size _).mono (by omega)⟩

set_option maxHeartbeats 2000000 in
theorem addFour_yes (B : Nat) (f : Nat → Int) (c : Nat) (p : Int) (s : ByteArray) (w : World) (hs : s.size ≤ maxLen) (h : fourB s = true) (hF : Fnd w B f c p) (hc : c ≤ 6) :
    Calls Try.prog 95 #[.pointer (some ⟨B, 0, none⟩), .string s] w fun e w' => e = .returned (.bool true) ∧ Fnd w' B (upd (upd f c (quadA s)) (c + 1) (quadB s)) (c + 2) p ∧ Below B w w' := by
  have KR := fun w => readFour_any s w hs
  have KA := partA s
  have KB := partB s
  rw [h] at KR
  generalize quadA s = qa at *
  generalize quadB s = qb at *
  generalize fourV s = x at *
  have hBw : B < w.heap.size := hF.2.2.2.2.2
  go_enter Try.func95, Try.ntmps95
  go_wp2_with fail
  refine (KR _).mono ?_
  rintro e w1 ⟨rfl, hb1⟩
  clear KR
  have hB1 := hb1.size
  have hF1 : Fnd (w1.alloc (.cells #[.int .u64 (hI x), .int .u64 (lI x)] 36)) B f c p := (hF.below hb1).below (bl1 _ _)
  have hX1 := at_new w1 w1.heap.size x 36 rfl
  have kB1 : Below B w (w1.alloc (.cells #[.int .u64 (hI x), .int .u64 (lI x)] 36)) := (hb1.mono (by omega)).alloc (by omega) _
  clear hF hb1
  obtain ⟨x0, x1, x2, x3, x4⟩ := id hX1
  go_wp2_with fail
  refine (KA _).mono ?_
  rintro e w2 ⟨rfl, hb2⟩
  clear KA
  have hF2 := hF1.below hb2
  have hX2 := hX1.below hb2
  have kB2 : Below B w w2 := kB1.trans (hb2.mono (by simp; omega))
  clear hF1 hX1 kB1 hb2 x0 x1 x2 x3 x4
  have hBw2 := kB2.size
  go_wp2_with fail
  refine (fadd_any B f c p qa w2 hF2 (by omega)).mono ?_
  rintro e w3 ⟨rfl, hF3, hb3, ho3⟩
  have hX3 := hX2.only ho3 (by omega)
  have kB3 : Below B w w3 := kB2.trans hb3
  have hz3 := ho3.1
  clear hF2 hX2 kB2 hb3 ho3
  obtain ⟨x0, x1, x2, x3, x4⟩ := id hX3
  go_wp2_with fail
  refine (KB _).mono ?_
  rintro e w4 ⟨rfl, hb4⟩
  clear KB
  have hF4 := hF3.below hb4
  have kB4 : Below B w w4 := kB3.trans (hb4.mono (by have := hF3.2.2.2.2.2; omega))
  clear hF3 hX3 kB3 hb4 x0 x1 x2 x3 x4 hz3
  go_wp2_with fail
  refine (fadd_any B (upd f c qa) (c + 1) p qb w4 hF4 (by omega)).mono ?_
  rintro e w5 ⟨rfl, hF5, hb5, ho5⟩
  have kB5 : Below B w w5 := kB4.trans hb5
  clear hF4 kB4 hb5 ho5
  go_wp2
  go_ret
  exact ⟨rfl, hF5, kB5⟩
set_option maxHeartbeats 2000000 in
theorem addFour_full (B : Nat) (f : Nat → Int) (c : Nat) (p : Int) (s : ByteArray) (w : World) (hs : s.size ≤ maxLen) (h : fourB s = true) (hF : Fnd w B f c p) (hc : c = 7 ∨ c = 8) :
    Calls Try.prog 95 #[.pointer (some ⟨B, 0, none⟩), .string s] w fun e w' => e = .returned (.bool false) ∧ Below B w w' := by
  have KR := fun w => readFour_any s w hs
  have KA := partA s
  have KB := partB s
  rw [h] at KR
  generalize quadA s = qa at *
  generalize quadB s = qb at *
  generalize fourV s = x at *
  have hBw : B < w.heap.size := hF.2.2.2.2.2
  go_enter Try.func95, Try.ntmps95
  go_wp2_with fail
  refine (KR _).mono ?_
  rintro e w1 ⟨rfl, hb1⟩
  clear KR
  have hB1 := hb1.size
  have hF1 : Fnd (w1.alloc (.cells #[.int .u64 (hI x), .int .u64 (lI x)] 36)) B f c p := (hF.below hb1).below (bl1 _ _)
  have hX1 := at_new w1 w1.heap.size x 36 rfl
  have kB1 : Below B w (w1.alloc (.cells #[.int .u64 (hI x), .int .u64 (lI x)] 36)) := (hb1.mono (by omega)).alloc (by omega) _
  clear hF hb1
  obtain ⟨x0, x1, x2, x3, x4⟩ := id hX1
  go_wp2_with fail
  refine (KA _).mono ?_
  rintro e w2 ⟨rfl, hb2⟩
  clear KA
  have hF2 := hF1.below hb2
  have hX2 := hX1.below hb2
  have kB2 : Below B w w2 := kB1.trans (hb2.mono (by simp; omega))
  clear hF1 hX1 kB1 hb2 x0 x1 x2 x3 x4
  have hBw2 := kB2.size
  rcases hc with rfl | rfl
  · go_wp2_with fail
    refine (fadd_any B f 7 p qa w2 hF2 (by omega)).mono ?_
    rintro e w3 ⟨rfl, hF3, hb3, ho3⟩
    have hX3 := hX2.only ho3 (by omega)
    have kB3 : Below B w w3 := kB2.trans hb3
    have hz3 := ho3.1
    clear hF2 hX2 kB2 hb3 ho3
    obtain ⟨x0, x1, x2, x3, x4⟩ := id hX3
    go_wp2_with fail
    refine (KB _).mono ?_
    rintro e w4 ⟨rfl, hb4⟩
    clear KB
    have hF4 := hF3.below hb4
    have kB4 : Below B w w4 := kB3.trans (hb4.mono (by have := hF3.2.2.2.2.2; omega))
    clear hF3 hX3 kB3 hb4 x0 x1 x2 x3 x4 hz3
    go_wp2_with fail
    refine (fadd_full B (upd f 7 qa) p qb w4 hF4).mono ?_
    rintro e w5 ⟨rfl, rfl⟩
    go_wp2
    go_ret
    exact ⟨rfl, kB4⟩
  · go_wp2_with fail
    refine (fadd_full B f p qa w2 hF2).mono ?_
    rintro e w3 ⟨rfl, rfl⟩
    go_wp2
    go_ret
    exact ⟨rfl, kB2⟩


def sixR (s : ByteArray) : Nat → Nat → (Nat → Int) → Nat → Int → BitVec 128 × Bool
  | 0, _, _, _, _ => (0#128, false)
  | n + 1, a, f, c, p =>
    if s.size ≤ a then (finV f c p, finB c p)
    else if byteAt s (a + (grpN (s.extract a s.size)).toNat) = 46 then (if fourB (s.extract a s.size) = true ∧ c ≤ 6 then (finV (upd (upd f c (quadA (s.extract a s.size))) (c + 1) (quadB (s.extract a s.size))) (c + 2) p, finB (c + 2) p) else (0#128, false))
    else if grpN (s.extract a s.size) = 0 ∨ c = 8 then (0#128, false)
    else if a + (grpN (s.extract a s.size)).toNat = s.size then (finV (upd f c (grpV (s.extract a s.size))) (c + 1) p, finB (c + 1) p)
    else if p = -1 ∧ byteAt s (a + (grpN (s.extract a s.size)).toNat) = 58 ∧ byteAt s (a + (grpN (s.extract a s.size)).toNat + 1) = 58 then sixR s n (a + (grpN (s.extract a s.size)).toNat + 2) (upd f c (grpV (s.extract a s.size))) (c + 1) ((c : Int) + 1)
    else if 1 < s.size - (a + (grpN (s.extract a s.size)).toNat) ∧ byteAt s (a + (grpN (s.extract a s.size)).toNat) = 58 then sixR s n (a + (grpN (s.extract a s.size)).toNat + 1) (upd f c (grpV (s.extract a s.size))) (c + 1) p
    else (0#128, false)
theorem sixR_succ (s : ByteArray) (n a : Nat) (f : Nat → Int) (c : Nat) (p : Int) : sixR s (n + 1) a f c p =
    if s.size ≤ a then (finV f c p, finB c p)
    else if byteAt s (a + (grpN (s.extract a s.size)).toNat) = 46 then (if fourB (s.extract a s.size) = true ∧ c ≤ 6 then (finV (upd (upd f c (quadA (s.extract a s.size))) (c + 1) (quadB (s.extract a s.size))) (c + 2) p, finB (c + 2) p) else (0#128, false))
    else if grpN (s.extract a s.size) = 0 ∨ c = 8 then (0#128, false)
    else if a + (grpN (s.extract a s.size)).toNat = s.size then (finV (upd f c (grpV (s.extract a s.size))) (c + 1) p, finB (c + 1) p)
    else if p = -1 ∧ byteAt s (a + (grpN (s.extract a s.size)).toNat) = 58 ∧ byteAt s (a + (grpN (s.extract a s.size)).toNat + 1) = 58 then sixR s n (a + (grpN (s.extract a s.size)).toNat + 2) (upd f c (grpV (s.extract a s.size))) (c + 1) ((c : Int) + 1)
    else if 1 < s.size - (a + (grpN (s.extract a s.size)).toNat) ∧ byteAt s (a + (grpN (s.extract a s.size)).toNat) = 58 then sixR s n (a + (grpN (s.extract a s.size)).toNat + 1) (upd f c (grpV (s.extract a s.size))) (c + 1) p
    else (0#128, false) := rfl
def six0 (s : ByteArray) : BitVec 128 × Bool := if byteAt s 0 = 58 ∧ byteAt s 1 = 58 then sixR s (s.size + 1) 2 (fun _ => 0) 0 0 else sixR s (s.size + 1) 0 (fun _ => 0) 0 (-1)

theorem grpR_bd (t : ByteArray) : ∀ f k v, k + f = 4 → k ≤ t.size → 0 ≤ v → v < 16 ^ k → 0 ≤ (grpR t f k v).1 ∧ (grpR t f k v).1 ≤ 65535 ∧ 0 ≤ (grpR t f k v).2 ∧ (grpR t f k v).2 ≤ t.size ∧ (grpR t f k v).2 ≤ 4 := by
  intro f
  induction f with
  | zero =>
    intro k v hk ht h0 h1
    have : k = 4 := by omega
    subst this
    refine ⟨h0, ?_, ?_, ?_, ?_⟩
    · show v ≤ 65535
      have : (16 : Int) ^ 4 = 65536 := by decide
      omega
    · show (0 : Int) ≤ ((4 : Nat) : Int); omega
    · show ((4 : Nat) : Int) ≤ _; omega
    · show ((4 : Nat) : Int) ≤ _; omega
  | succ f ih =>
    intro k v hk ht h0 h1
    have hd := hexV_bd (byteAt t k)
    have hpw : (16 : Int) ^ k ≤ 65536 := by
      rcases (by omega : k = 0 ∨ k = 1 ∨ k = 2 ∨ k = 3) with rfl | rfl | rfl | rfl <;> decide
    by_cases hc : k < t.size ∧ hexB (byteAt t k) = true
    · have e : grpR t (f + 1) k v = grpR t f (k + 1) (16 * v + hexV (byteAt t k)) := if_pos hc
      rw [e]
      exact ih (k + 1) _ (by omega) (by omega) (by omega) (by rw [Int.pow_succ]; omega)
    · have e : grpR t (f + 1) k v = (v, (k : Int)) := if_neg hc
      rw [e]
      refine ⟨h0, ?_, ?_, ?_, ?_⟩
      · show v ≤ 65535; omega
      · show (0 : Int) ≤ (k : Int); omega
      · show (k : Int) ≤ _; omega
      · show (k : Int) ≤ 4; omega
theorem grp_bd (t : ByteArray) : 0 ≤ grpV t ∧ grpV t ≤ 65535 ∧ 0 ≤ grpN t ∧ grpN t ≤ t.size := by
  have := grpR_bd t 4 0 0 (by omega) (by omega) (by omega) (by decide)
  unfold grpV grpN; omega

end Go.Proofs.Ytohnhpicjedfeaa
