/-
  Part 4 of the proof: 7 texts, one behind the other.
-/
import Derived.Test.YtpchhfhdepkbcaaDoorPart3
import Derived.WalkMore
import Derived.Deep.LoopGhost
import Derived.Lib.Strings
import Derived.Deep.AppendLies
import Derived.OwnWalk
import Derived.Laws.OwnMore
import Derived.Deep.Onto
/-
  What the call of package addr's readFour does.
-/
namespace Go.Proofs.YtpchhfhdepkbcaaDoor
open Go.RowKit
set_option linter.unusedSimpArgs false
set_option linter.unusedVariables false

theorem numR_bd (t : ByteArray) : ∀ f k n, 0 ≤ n → n ≤ 255 → 0 ≤ (numR t f k n).1 ∧ (numR t f k n).1 ≤ 255 ∧ 0 ≤ (numR t f k n).2 ∧ (numR t f k n).2 ≤ (k : Int) + f := by
  intro f
  induction f with
  | zero => intro k n h0 h1; exact ⟨h0, h1, by show (0 : Int) ≤ (k : Int); omega, by show (k : Int) ≤ _; omega⟩
  | succ f ih =>
    intro k n h0 h1
    show 0 ≤ (if _ then _ else _ : Int × Int).1 ∧ (if _ then _ else _ : Int × Int).1 ≤ 255 ∧ 0 ≤ (if _ then _ else _ : Int × Int).2 ∧ (if _ then _ else _ : Int × Int).2 ≤ _
    split
    · split
      · simp; omega
      · split
        · simp; omega
        · have := ih (k + 1) (10 * n + (byteAt t k - 48)) (by omega) (by omega)
          omega
    · simp; omega
theorem num_bd (t : ByteArray) : 0 ≤ numV t ∧ numV t ≤ 255 ∧ 0 ≤ numN t ∧ numN t ≤ t.size := by
  have := numR_bd t t.size 0 0 (by omega) (by omega)
  unfold numV numN; omega

/-- Four numbers with points between, from number i on, at place a, x being laid. -/
def fourR (s : ByteArray) : Nat → Nat → Nat → BitVec 128 → BitVec 128 × Bool
  | 0, _, _, _ => (0#128, false)
  | f + 1, i, a, x =>
    if numN (s.extract a s.size) = 0 then (0#128, false)
    else if i = 3 then (layW x i 8 (numV (s.extract a s.size)), decide (a + (numN (s.extract a s.size)).toNat = s.size))
    else if a + (numN (s.extract a s.size)).toNat = s.size ∨ byteAt s (a + (numN (s.extract a s.size)).toNat) ≠ 46 then (0#128, false)
    else fourR s f (i + 1) (a + (numN (s.extract a s.size)).toNat + 1) (layW x i 8 (numV (s.extract a s.size)))
def fourV (s : ByteArray) : BitVec 128 := (fourR s 4 0 0 0#128).1
def fourB (s : ByteArray) : Bool := (fourR s 4 0 0 0#128).2

theorem at_new (w : World) (B : Nat) (x : BitVec 128) (T : TypeId) (h : B = w.heap.size) : At (w.alloc (.cells #[.int .u64 (hI x), .int .u64 (lI x)] T)) B x := by
  subst h
  refine ⟨?_, ?_, ?_, ?_, ?_⟩ <;> simp [go_sem]

theorem bset2 {n C : Nat} {w W : World} (h : Below n w W) (hp : n ≤ C) (u v : Value) : Below n w ((W.setCell ⟨C, 0, none⟩ u).setCell ⟨C, 1, none⟩ v) := (h.setCell hp _).setCell hp _

set_option maxHeartbeats 4000000 in
theorem readFour_any (s : ByteArray) (w : World) (hs : s.size ≤ maxLen) :
    Calls Tryd.prog 54 #[.string s] w fun e w' => e = .returned (.tuple #[.agg #[.int .u64 (hI (fourV s)), .int .u64 (lI (fourV s))], .bool (fourB s)]) ∧ Below w.heap.size w w' := by
  have KN := fun a w => number_any (s.extract a s.size) w (by simp; omega)
  unfold maxLen at hs
  go_enter Tryd.func54, Tryd.ntmps54
  go_wp2
  go_step3
  go_wp2
  go_step3
  go_wp2
  go_loopw [5, 9] (fun p q wr => ∃ (i a : Nat) (x : BitVec 128), p = .int .i64 a ∧ q = .int .i64 i ∧ i ≤ 3 ∧ a ≤ s.size ∧ Hid (fourR s (4 - i) i a x = fourR s 4 0 0 0#128) ∧ At wr (w.heap.size + 1) x ∧ At wr w.heap.size 0#128 ∧ Below w.heap.size w wr) (fun _ q _ => 4 - (intOf q).toNat)
  case atStart =>
    refine ⟨0, 0, 0#128, rfl, rfl, by omega, by omega, rfl, ?_, ?_, bl2 _ _ _⟩
    · refine ⟨?_, ?_, ?_, ?_, ?_⟩ <;> simp [go_sem, hI_zero, lI_zero]
    · refine ⟨?_, ?_, ?_, ?_, ?_⟩ <;> simp [go_sem, hI_zero, lI_zero]
  case round =>
    obtain ⟨i, a, x, rfl, rfl, hi, ha, HR, hA, hZ, hB⟩ := hrel
    have bd := num_bd (s.extract a s.size)
    have ez : (s.extract a s.size).size = s.size - a := by simp
    rw [ez] at bd
    have HU : Hid (4 - i = (4 - (i + 1)) + 1) := by show _ = _; omega
    have HS : Hid (∀ f, fourR s (f + 1) i a x = if numN (s.extract a s.size) = 0 then (0#128, false) else if i = 3 then (layW x i 8 (numV (s.extract a s.size)), decide (a + (numN (s.extract a s.size)).toNat = s.size))
      else if a + (numN (s.extract a s.size)).toNat = s.size ∨ byteAt s (a + (numN (s.extract a s.size)).toNat) ≠ 46 then (0#128, false)
      else fourR s f (i + 1) (a + (numN (s.extract a s.size)).toNat + 1) (layW x i 8 (numV (s.extract a s.size)))) := fun _ => rfl
    have KA := KN a
    clear KN ez
    generalize numV (s.extract a s.size) = v at *
    generalize numN (s.extract a s.size) = z at *
    obtain ⟨v0, v1, z0, z1⟩ := bd
    obtain ⟨z, rfl⟩ := Int.eq_ofNat_of_zero_le z0
    simp only [Int.toNat_natCast] at HS
    have hi4 : (i : Int) < 4 := by omega
    have hlo : (a : Int) ≤ s.size := by omega
    obtain ⟨a0, a1, a2, a3, a4⟩ := id hA
    go_wp2_with fail
    refine (KA _).mono ?_
    rintro e w1 ⟨rfl, rfl⟩
    clear KA
    go_wp2_with fail
    refine (aput_any x i 8 v _ v0 (by omega) (by omega) (by omega) (by omega) (by omega)).mono ?_
    rintro e w2 ⟨rfl, hb2⟩
    have hA2 := (hA.below hb2).set (layW x i 8 v)
    have hZ2 := (hZ.below hb2).other (.int .u64 (hI (layW x i 8 v))) (.int .u64 (lI (layW x i 8 v))) (C := w.heap.size + 1) (by omega)
    have hB2 := bset2 (keepb hb2 hB) (C := w.heap.size + 1) (by omega) (.int .u64 (hI (layW x i 8 v))) (.int .u64 (lI (layW x i 8 v)))
    obtain ⟨b0, b1, b2, b3, b4⟩ := hA.below hb2
    obtain ⟨y0, y1, y2, y3, y4⟩ := hZ.below hb2
    clear hA hZ hB hb2 a0 a1 a2 a3 a4
    generalize layW x i 8 v = x' at *
    have hsum : IntKind.i64.wrap ((a : Int) + z) = ((a + z : Nat) : Int) := by rw [IntKind.wrap_i64]; omega
    by_cases hz : z = 0
    · have HF : Hid (fourV s = 0#128 ∧ fourB s = false) := by
        show _ ∧ _
        unfold fourV fourB; rw [← HR.out, HU.out, HS.out, if_pos (by omega)]; exact ⟨rfl, rfl⟩
      clear HR HU HS
      subst hz
      go_wp2
      rw [Exit.noGoto_ret]
      exact bodyPost_ret (v := .tuple #[.agg #[.int .u64 0, .int .u64 0], .bool false]) (by simp [results, Tryd.results54, go_sem, *]) rfl ⟨by rw [HF.out.1, HF.out.2, hI_zero, lI_zero], bset2 hB2 (Nat.le_refl _) _ _⟩
    have hz' : ¬ (z : Int) = 0 := by omega
    by_cases h3 : i = 3
    · have HF : Hid (fourV s = x' ∧ fourB s = decide (a + z = s.size)) := by
        show _ ∧ _
        unfold fourV fourB; rw [← HR.out, HU.out, HS.out, if_neg hz', if_pos h3]; exact ⟨rfl, rfl⟩
      clear HR HU HS
      subst h3
      have hd : (((a : Int) + z) == (s.size : Int)) = decide (a + z = s.size) := by rw [Bool.eq_iff_iff]; simp; omega
      go_wp2
      rw [Exit.noGoto_ret]
      exact bodyPost_ret (v := .tuple #[.agg #[.int .u64 (hI x'), .int .u64 (lI x')], .bool (decide (a + z = s.size))]) (by simp [results, Tryd.results54, go_sem, *]) rfl ⟨by rw [HF.out.1, HF.out.2], bset2 hB2 (Nat.le_refl _) _ _⟩
    have h3' : ¬ (i : Int) = 3 := by omega
    by_cases he : a + z = s.size
    · have HF : Hid (fourV s = 0#128 ∧ fourB s = false) := by
        show _ ∧ _
        unfold fourV fourB; rw [← HR.out, HU.out, HS.out, if_neg hz', if_neg h3, if_pos (Or.inl he)]; exact ⟨rfl, rfl⟩
      clear HR HU HS
      have hq : (a : Int) + z = (s.size : Int) := by omega
      go_wp2
      rw [Exit.noGoto_ret]
      exact bodyPost_ret (v := .tuple #[.agg #[.int .u64 0, .int .u64 0], .bool false]) (by simp [results, Tryd.results54, go_sem, *]) rfl ⟨by rw [HF.out.1, HF.out.2, hI_zero, lI_zero], bset2 hB2 (Nat.le_refl _) _ _⟩
    obtain ⟨m, HM⟩ : ∃ m, Hid (a + z = m) := ⟨_, rfl⟩
    simp only [HM.out] at HS he
    have hms : m < s.size := by have := HM.out; omega
    have hbt := byteAt_in s m hms
    have hm : (a : Int) + (z : Int) = (m : Int) := by have := HM.out; omega
    clear z1 hsum HM
    have hme : ¬ (m : Int) = (s.size : Int) := by omega
    have hsum : IntKind.i64.wrap (m : Int) = (m : Int) := by rw [IntKind.wrap_i64]; omega
    have hsu1 : IntKind.i64.wrap ((m : Int) + 1) = (m : Int) + 1 := by rw [IntKind.wrap_i64]; omega
    by_cases hc : byteAt s m = 46
    · have HF : Hid (fourR s (4 - (i + 1)) (i + 1) (m + 1) x' = fourR s 4 0 0 0#128) := by
        show _ = _
        rw [← HR.out, HU.out, HS.out, if_neg hz', if_neg h3, if_neg (by simp [he, hc])]
      clear HR HU HS
      rw [hc] at hbt
      clear hc
      go_wp2
      go_roundw
      case rel => exact ⟨i + 1, m + 1, x', by go_num, by go_num, by omega, by omega, HF, hA2, hZ2, hB2⟩
      case measure => simp [intOf]; omega
    · have HF : Hid (fourV s = 0#128 ∧ fourB s = false) := by
        show _ ∧ _
        unfold fourV fourB; rw [← HR.out, HU.out, HS.out, if_neg hz', if_neg h3, if_pos (Or.inr hc)]; exact ⟨rfl, rfl⟩
      clear HR HU HS
      generalize byteAt s m = c at *
      have hcb : (c != 46) = true := by simp [hc]
      go_wp2
      rw [Exit.noGoto_ret]
      exact bodyPost_ret (v := .tuple #[.agg #[.int .u64 0, .int .u64 0], .bool false]) (by simp [results, Tryd.results54, go_sem, *]) rfl ⟨by rw [HF.out.1, HF.out.2, hI_zero, lI_zero], bset2 hB2 (Nat.le_refl _) _ _⟩
end Go.Proofs.YtpchhfhdepkbcaaDoor
/-
  What the calls of package addr's digit and group and of strings.HasPrefix do.
-/
namespace Go.Proofs.YtpchhfhdepkbcaaDoor
open Go.RowKit
set_option linter.unusedSimpArgs false
set_option linter.unusedVariables false

/-- Is the byte a digit of sixteen, great or small, and which number is it? -/
def hexB (c : Int) : Bool := (decide (48 ≤ c) && decide (c ≤ 57)) || (decide (65 ≤ c) && decide (c ≤ 70)) || (decide (97 ≤ c) && decide (c ≤ 102))
def hexV (c : Int) : Int := if 48 ≤ c ∧ c ≤ 57 then c - 48 else if 65 ≤ c ∧ c ≤ 70 then c + 32 - 97 + 10 else if 97 ≤ c ∧ c ≤ 102 then c - 97 + 10 else 0
theorem hex_ways (c : Int) : (c < 48 ∧ hexB c = false ∧ hexV c = 0) ∨ (48 ≤ c ∧ c ≤ 57 ∧ hexB c = true ∧ hexV c = c - 48) ∨ (57 < c ∧ c < 65 ∧ hexB c = false ∧ hexV c = 0) ∨ (65 ≤ c ∧ c ≤ 70 ∧ hexB c = true ∧ hexV c = c + 32 - 97 + 10) ∨ (70 < c ∧ c < 97 ∧ hexB c = false ∧ hexV c = 0) ∨ (97 ≤ c ∧ c ≤ 102 ∧ hexB c = true ∧ hexV c = c - 97 + 10) ∨ (102 < c ∧ hexB c = false ∧ hexV c = 0) := by
  unfold hexB hexV
  by_cases h1 : c < 48
  · left
    have a1 : ¬ 48 ≤ c := by omega
    have a2 : ¬ 97 ≤ c := by omega
    have a3 : ¬ 65 ≤ c := by omega
    simp [a1, a2, a3, h1]
  by_cases h2 : c ≤ 57
  · right; left
    have a1 : 48 ≤ c := by omega
    simp [a1, h2]
  by_cases h3 : c < 65
  · right; right; left
    have a2 : ¬ 97 ≤ c := by omega
    have a3 : ¬ 65 ≤ c := by omega
    simp [h2, a2, a3, h3]; omega
  by_cases h4 : c ≤ 70
  · right; right; right; left
    have a3 : 65 ≤ c := by omega
    simp [h2, a3, h4]
  by_cases h5 : c < 97
  · right; right; right; right; left
    have a2 : ¬ 97 ≤ c := by omega
    simp [h2, a2, h4, h5]; omega
  by_cases h6 : c ≤ 102
  · right; right; right; right; right; left
    have a2 : 97 ≤ c := by omega
    simp [h2, a2, h4, h6]
  · right; right; right; right; right; right
    simp [h2, h4, h6]; omega
theorem hexV_bd (c : Int) : 0 ≤ hexV c ∧ hexV c ≤ 15 := by
  rcases hex_ways c with ⟨a, p, q⟩ | ⟨a, b, p, q⟩ | ⟨a, b, p, q⟩ | ⟨a, b, p, q⟩ | ⟨a, b, p, q⟩ | ⟨a, b, p, q⟩ | ⟨a, p, q⟩ <;> rw [q] <;> omega

set_option maxHeartbeats 1000000 in
theorem adigit_any (c : Int) (w : World) (h0 : 0 ≤ c) (h1 : c ≤ 255) :
    Calls Tryd.prog 97 #[.int .u8 c] w fun e w' => e = .returned (.tuple #[.int .u64 (hexV c), .bool (hexB c)]) ∧ w' = w := by
  rcases hex_ways c with ⟨a, p, q⟩ | ⟨a, b, p, q⟩ | ⟨a, b, p, q⟩ | ⟨a, b, p, q⟩ | ⟨a, b, p, q⟩ | ⟨a, b, p, q⟩ | ⟨a, p, q⟩
  all_goals
    rw [p, q]
    clear p q
    go_enter Tryd.func97, Tryd.ntmps97
    go_wp2
    go_ret2
  all_goals exact ⟨rfl, rfl⟩

theorem or4 (v d : Int) (h0 : 0 ≤ v) (h1 : v < 1152921504606846976) (d0 : 0 ≤ d) (d1 : d ≤ 15) : bits .or .u64 (IntKind.u64.wrap (v * 16)) d = 16 * v + d := by
  obtain ⟨n, rfl⟩ := Int.eq_ofNat_of_zero_le h0
  obtain ⟨m, rfl⟩ := Int.eq_ofNat_of_zero_le d0
  have e1 : IntKind.u64.wrap ((n : Int) * 16) = ((BitVec.ofNat 64 (n * 16)).toNat : Int) := by
    simp [IntKind.wrap, IntKind.bits, IntKind.signed, BitVec.toNat_ofNat]
  have e2 : (m : Int) = ((BitVec.ofNat 64 m).toNat : Int) := by
    simp [BitVec.toNat_ofNat]; omega
  rw [e1, e2, bits64or _ _ _ rfl, BitVec.toNat_or, BitVec.toNat_ofNat, BitVec.toNat_ofNat, Nat.mod_eq_of_lt (by omega), Nat.mod_eq_of_lt (by omega)]
  have := Nat.shiftLeft_add_eq_or_of_lt (b := m) (i := 4) (by omega) n
  rw [Nat.shiftLeft_eq] at this
  rw [show n * 16 = n * 2 ^ 4 from rfl, ← this]; omega

/-- The digits that a text begins with, as many as a group may have, from place k on, v being read. -/
def grpR (t : ByteArray) : Nat → Nat → Int → Int × Int
  | 0, k, v => (v, k)
  | f + 1, k, v => if k < t.size ∧ hexB (byteAt t k) = true then grpR t f (k + 1) (16 * v + hexV (byteAt t k)) else (v, k)
def grpV (t : ByteArray) : Int := (grpR t 4 0 0).1
def grpN (t : ByteArray) : Int := (grpR t 4 0 0).2

set_option maxHeartbeats 1000000 in
theorem group_any (t : ByteArray) (w : World) (hs : t.size ≤ maxLen) :
    Calls Tryd.prog 82 #[.string t] w fun e w' => e = .returned (.tuple #[.int .u64 (grpV t), .int .i64 (grpN t)]) ∧ w' = w := by
  unfold maxLen at hs
  go_enter Tryd.func82, Tryd.ntmps82
  go_wp2
  go_loopw [2, 3] (fun a b wr => ∃ (k : Nat) (v : Int), a = .int .u64 v ∧ b = .int .i64 k ∧ k ≤ 4 ∧ k ≤ t.size ∧ 0 ≤ v ∧ Hid (v < 16 ^ k) ∧ Hid (grpR t (4 - k) k v = grpR t 4 0 0) ∧ wr = w) (fun _ b _ => 4 - (intOf b).toNat)
  case atStart => exact ⟨0, 0, rfl, rfl, by omega, by omega, by omega, by show (0 : Int) < 1; omega, rfl, rfl⟩
  case round =>
    obtain ⟨k, v, rfl, rfl, hk, hkt, v0, HV, HR, rfl⟩ := hrel
    by_cases hlt : k < t.size
    · have hk2 : (k : Int) < (t.size : Int) := by omega
      by_cases hk4 : k < 4
      · have hk5 : (k : Int) < 4 := by omega
        have hbt := byteAt_in t k hlt
        have bd := byteAt_bd t k
        have HU : Hid (4 - k = (4 - (k + 1)) + 1) := by show _ = _; omega
        have HS : Hid (∀ f, grpR t (f + 1) k v = if k < t.size ∧ hexB (byteAt t k) = true then grpR t f (k + 1) (16 * v + hexV (byteAt t k)) else (v, k)) := fun _ => rfl
        generalize byteAt t k = c at *
        have KD := fun w => adigit_any c w bd.1 bd.2
        have db := hexV_bd c
        have HP : Hid ((16 : Int) ^ k ≤ 16 ^ 3) := by
          show _ ≤ _
          rcases (by omega : k = 0 ∨ k = 1 ∨ k = 2 ∨ k = 3) with rfl | rfl | rfl | rfl <;> decide
        have hor := or4 v (hexV c) v0 (by have := HV.out; have := HP.out; omega) db.1 db.2
        cases hd : hexB c
        · have HF : Hid (grpV t = v ∧ grpN t = (k : Int)) := by
            show _ ∧ _
            unfold grpV grpN; rw [← HR.out, HU.out, HS.out, if_neg (by simp [hd])]; exact ⟨rfl, rfl⟩
          rw [hd] at KD
          clear HR HU HS HP HV hd
          go_wp2_with fail
          refine (KD _).mono ?_
          rintro e w1 ⟨rfl, rfl⟩
          clear KD
          go_wp2
          go_ret2
          exact ⟨by rw [HF.out.1, HF.out.2]; rfl, rfl⟩
        · have HF : Hid (grpR t (4 - (k + 1)) (k + 1) (16 * v + hexV c) = grpR t 4 0 0) := by
            show _ = _
            rw [← HR.out, HU.out, HS.out, if_pos ⟨hlt, hd⟩]
          have HV2 : Hid (16 * v + hexV c < 16 ^ (k + 1)) := by
            show _ < _
            have := HV.out
            rw [Int.pow_succ]; omega
          rw [hd] at KD
          clear HR HU HS HP HV hd
          generalize hexV c = d at *
          go_wp2_with fail
          refine (KD _).mono ?_
          rintro e w1 ⟨rfl, rfl⟩
          clear KD
          go_wp2
          go_roundw
          case rel => exact ⟨k + 1, 16 * v + d, rfl, by go_num, by omega, by omega, by omega, HV2, HF, trivial⟩
          case measure => simp [intOf]; omega
      · have HF : Hid (grpV t = v ∧ grpN t = (k : Int)) := by
          show _ ∧ _
          have e : k = 4 := by omega
          subst e
          unfold grpV grpN; rw [← HR.out]; exact ⟨rfl, rfl⟩
        clear HR HV
        have e : k = 4 := by omega
        subst e
        go_wp2
        go_ret2
        exact ⟨by rw [HF.out.1, HF.out.2]; rfl, rfl⟩
    · have HF : Hid (grpV t = v ∧ grpN t = (k : Int)) := by
        show _ ∧ _
        have hn : ∀ f, grpR t f k v = (v, (k : Int)) := by
          intro f; cases f with
          | zero => rfl
          | succ f => show (if _ then _ else _) = _; rw [if_neg (by simp [hlt])]
        unfold grpV grpN; rw [← HR.out, hn]; exact ⟨rfl, rfl⟩
      clear HR HV
      go_wp2
      go_ret2
      exact ⟨by rw [HF.out.1, HF.out.2]; rfl, rfl⟩

set_option maxHeartbeats 1000000 in
theorem hasP_any (t p : ByteArray) (w : World) (hs : t.size ≤ maxLen) (hp : p.size ≤ 2) :
    Calls Tryd.prog 81 #[.string t, .string p] w fun e w' => e = .returned (.bool (decide (p.size ≤ t.size) && ((t.extract 0 p.size).toList == p.toList))) ∧ w' = w := by
  unfold maxLen at hs
  by_cases h : p.size ≤ t.size
  · have h2 : (p.size : Int) ≤ (t.size : Int) := by omega
    go_enter Tryd.func81, Tryd.ntmps81
    go_wp2_with go_in
    go_ret
    exact ⟨by simp [h], rfl⟩
  · have h2 : ¬ (p.size : Int) ≤ (t.size : Int) := by omega
    go_enter Tryd.func81, Tryd.ntmps81
    go_wp2_with go_in
    go_ret
    exact ⟨by simp [h], rfl⟩

theorem byteAt_list (l : List UInt8) (k : Nat) : byteAt ⟨l.toArray⟩ k = match l[k]? with | some c => (c.toNat : Int) | none => 0 := by
  unfold byteAt
  have e : (⟨l.toArray⟩ : ByteArray).size = l.length := rfl
  by_cases h : k < l.length
  · rw [dif_pos (by rw [e]; exact h), List.getElem?_eq_getElem h]; rfl
  · rw [dif_neg (by rw [e]; exact h), List.getElem?_eq_none (by omega)]
theorem byteAt_ext (s : ByteArray) (a k : Nat) : byteAt (s.extract a s.size) k = byteAt s (a + k) := by
  unfold byteAt
  by_cases h : a + k < s.size
  · have h2 : k < (s.extract a s.size).size := by simp; omega
    rw [dif_pos h, dif_pos h2]
    congr 2
    rw [ByteArray.getElem_extract]
  · have h2 : ¬ k < (s.extract a s.size).size := by simp; omega
    rw [dif_neg h, dif_neg h2]
theorem u8_of (c : UInt8) (n : Nat) (h : n < 256) : ((c.toNat : Int) = (n : Int)) ↔ c = UInt8.ofNat n := by
  constructor
  · intro e
    apply UInt8.toNat.inj
    rw [UInt8.toNat_ofNat']; omega
  · intro e
    rw [e, UInt8.toNat_ofNat']; omega
theorem hasP1 (t : ByteArray) (c : Nat) (w : World) (hs : t.size ≤ maxLen) (h0 : 0 < c) (h1 : c < 256) :
    Calls Tryd.prog 81 #[.string t, .string ⟨#[UInt8.ofNat c]⟩] w fun e w' => e = .returned (.bool (decide (byteAt t 0 = c))) ∧ w' = w := by
  have h := hasP_any t ⟨#[UInt8.ofNat c]⟩ w hs (by show 1 ≤ 2; omega)
  rw [Lib.hasPrefix_raw] at h
  have e : Lib.hasPrefix t.data.toList (⟨#[UInt8.ofNat c]⟩ : ByteArray).data.toList = decide (byteAt t 0 = c) := by
    rw [← Lib.mk_data t, byteAt_list]
    cases t.data.toList with
    | nil => simp [Lib.hasPrefix]; omega
    | cons x l =>
      have u := u8_of x c h1
      rw [Bool.eq_iff_iff]
      simp [Lib.hasPrefix, List.isPrefixOf, u]
      exact eq_comm
  rw [e] at h; exact h
theorem hasP2 (t : ByteArray) (w : World) (hs : t.size ≤ maxLen) :
    Calls Tryd.prog 81 #[.string t, .string ⟨#[58, 58]⟩] w fun e w' => e = .returned (.bool (decide (byteAt t 0 = 58 ∧ byteAt t 1 = 58))) ∧ w' = w := by
  have h := hasP_any t ⟨#[58, 58]⟩ w hs (by decide)
  rw [Lib.hasPrefix_raw] at h
  have e : Lib.hasPrefix t.data.toList (⟨#[58, 58]⟩ : ByteArray).data.toList = decide (byteAt t 0 = 58 ∧ byteAt t 1 = 58) := by
    rw [← Lib.mk_data t, byteAt_list, byteAt_list]
    cases t.data.toList with
    | nil => simp [Lib.hasPrefix]
    | cons x l =>
      have u := u8_of x 58 (by decide)
      cases l with
      | nil => simp [Lib.hasPrefix, List.isPrefixOf]
      | cons y l =>
        have v := u8_of y 58 (by decide)
        have u' : ((x.toNat : Int) = 58) ↔ x = 58 := u
        have v' : ((y.toNat : Int) = 58) ↔ y = 58 := v
        rw [Bool.eq_iff_iff]
        simp [Lib.hasPrefix, List.isPrefixOf, u', v']
        rw [eq_comm (a := x), eq_comm (a := y)]
  rw [e] at h; exact h
end Go.Proofs.YtpchhfhdepkbcaaDoor
/-
  What the calls of turnpikeref2's octet, group and gap do.
-/
namespace Go.Proofs.YtpchhfhdepkbcaaDoor
open Go.RowKit
set_option linter.unusedSimpArgs false
set_option linter.unusedVariables false

def octG (t : ByteArray) : Nat → Nat → Int → Int
  | 0, _, n => n
  | f + 1, k, n => if 48 ≤ byteAt t k ∧ byteAt t k ≤ 57 then octG t f (k + 1) (10 * n + (byteAt t k - 48)) else -1
def octV (t : ByteArray) : Int := if t.size < 1 ∨ 3 < t.size ∨ (1 < t.size ∧ byteAt t 0 = 48) then -1 else if 255 < octG t t.size 0 0 then -1 else octG t t.size 0 0

def grG (t : ByteArray) : Nat → Nat → Int → Int
  | 0, _, n => n
  | f + 1, k, n => if hexB (byteAt t k) = true then grG t f (k + 1) (16 * n + hexV (byteAt t k)) else -1
def grV (t : ByteArray) : Int := if t.size < 1 ∨ 4 < t.size then -1 else grG t t.size 0 0

def gapG (t : ByteArray) : Nat → Nat → Int
  | 0, _ => -1
  | f + 1, i => if i + 1 < t.size then (if byteAt t i = 58 ∧ byteAt t (i + 1) = 58 then (i : Int) else gapG t f (i + 1)) else -1
def gapV (t : ByteArray) : Int := gapG t (t.size + 1) 0

end Go.Proofs.YtpchhfhdepkbcaaDoor
/-
  What the call of turnpikeref2's split does.
-/
namespace Go.Proofs.YtpchhfhdepkbcaaDoor
open Go.RowKit
set_option linter.unusedSimpArgs false
set_option linter.unusedVariables false

theorem rowBelow {base e size n : Nat} {v : Value} {xs : List Value} {W w' : World} (hb : Below W.heap.size W w') (h : W.ownsRow base e size v n xs) : w'.ownsRow base e size v n xs := by
  refine h.kept (row := none) ⟨hb.os, hb.tape, hb.output, hb.size, fun k hk _ => hb.block k hk⟩ ?_
  cases v.ownBlock with
  | none => exact Or.inl rfl
  | some a => exact Or.inr (by simp)
theorem newsS (W : World) (v : Value) (t : TypeId) : ∀ j u, [v][j]? = some u → (W.alloc (.cells #[v] t)).cell? ((⟨W.heap.size, 0, none⟩ : Addr).add j) = some u := by
  intro j u hj
  match j, hj with
  | 0, hj => simp at hj; subst hj; simp [Addr.add, go_sem]
theorem oneS (s : ByteArray) : ∀ u ∈ [Value.string s], u.oneCell' = true := by
  intro u hu; simp at hu; subst hu; rfl
theorem Tryd.infoS : (Tryd.prog.info? 9).map (fun i => (i.zero, i.size, i.bytes)) = some (some (.string ByteArray.empty), 1, 16) := by kernel_rfl

/-- The pieces of a text between the bytes c, from place i on, the piece at hand having begun at p. -/
def spl (t : ByteArray) (c : Int) : Nat → Nat → Nat → List ByteArray
  | 0, p, _ => [t.extract p t.size]
  | f + 1, p, i => if byteAt t i = c then t.extract p i :: spl t c f (i + 1) (i + 1) else spl t c f p (i + 1)
def strs (l : List ByteArray) : List Value := l.map Value.string

end Go.Proofs.YtpchhfhdepkbcaaDoor
/-
  What the call of turnpikeref2's dotted does.
-/
namespace Go.Proofs.YtpchhfhdepkbcaaDoor
open Go.RowKit
set_option linter.unusedSimpArgs false
set_option linter.unusedVariables false

theorem octG_bd (t : ByteArray) : ∀ f k n, 0 ≤ n → -1 ≤ octG t f k n := by
  intro f
  induction f with
  | zero => intro k n h; show -1 ≤ n; omega
  | succ f ih =>
    intro k n h
    show -1 ≤ if _ then _ else _
    split
    · exact ih _ _ (by omega)
    · omega
theorem octV_bd (t : ByteArray) : -1 ≤ octV t ∧ octV t ≤ 255 := by
  unfold octV
  split
  · omega
  · have := octG_bd t t.size 0 0 (by omega)
    split <;> omega
theorem spl_size (t : ByteArray) (c : Int) : ∀ f p i, ∀ q ∈ spl t c f p i, q.size ≤ t.size := by
  intro f
  induction f with
  | zero =>
    intro p i q hq
    have : q = t.extract p t.size := by simpa [spl] using hq
    subst this; simp
  | succ f ih =>
    intro p i q hq
    unfold spl at hq
    split at hq
    · rcases List.mem_cons.mp hq with rfl | h
      · simp; omega
      · exact ih _ _ q h
    · exact ih _ _ q hq
/-- The numbers of the pieces as one. -/
def dotG : List ByteArray → Int → Option Int
  | [], v => some v
  | p :: l, v => if octV p < 0 then none else dotG l (256 * v + octV p)
def dotO (t : ByteArray) : Option Int := if (spl t 46 t.size 0 0).length = 4 then dotG (spl t 46 t.size 0 0) 0 else none

theorem row_get {w : World} {base e g n cap : Nat} {l : List ByteArray} (h : w.ownsRow base e 1 (.slice (some ⟨g, 0, none⟩) n cap) n (strs l)) (hn : n = l.length) (k : Nat) (hk : k < n) : w.cell? ⟨g, k, none⟩ = some (.string (l[k]'(by omega))) := by
  rw [h.cellAt k (by omega)]
  unfold strs
  rw [List.getElem?_map, List.getElem?_eq_getElem (by omega)]
  rfl

end Go.Proofs.YtpchhfhdepkbcaaDoor
/-
  What the call of turnpikeref2's groups does.
-/
namespace Go.Proofs.YtpchhfhdepkbcaaDoor
open Go.RowKit
set_option linter.unusedSimpArgs false
set_option linter.unusedVariables false

theorem dotG_bd : ∀ (l : List ByteArray) (v u : Int), 0 ≤ v → dotG l v = some u → 0 ≤ u ∧ u < (v + 1) * 256 ^ l.length := by
  intro l
  induction l with
  | nil => intro v u h e; simp [dotG] at e; subst e; simp; omega
  | cons p l ih =>
    intro v u h e
    unfold dotG at e
    split at e
    · cases e
    · have ob := octV_bd p
      have := ih (256 * v + octV p) u (by omega) e
      refine ⟨this.1, ?_⟩
      have h2 : (256 * v + octV p + 1) * 256 ^ l.length ≤ ((v + 1) * 256) * 256 ^ l.length := Int.mul_le_mul_of_nonneg_right (by omega) (Int.pow_nonneg (by omega))
      rw [List.length_cons, Int.pow_succ, Int.mul_comm (256 ^ l.length), ← Int.mul_assoc]
      omega
theorem dotO_bd (t : ByteArray) (u : Int) (h : dotO t = some u) : 0 ≤ u ∧ u < 4294967296 := by
  unfold dotO at h
  split at h
  · rename_i hl
    have := dotG_bd _ 0 u (by omega) h
    rw [hl] at this
    exact ⟨this.1, by have := this.2; simpa using this⟩
  · cases h
theorem and16 (v : Int) (h0 : 0 ≤ v) (h1 : v < 4294967296) : bits .and .u64 v 65535 = v % 65536 := by
  obtain ⟨n, rfl⟩ := Int.eq_ofNat_of_zero_le h0
  have e1 : (n : Int) = ((BitVec.ofNat 64 n).toNat : Int) := by simp [BitVec.toNat_ofNat]; omega
  have e2 : (65535 : Int) = ((BitVec.ofNat 64 65535).toNat : Int) := by decide
  rw [e1, e2, bits64and _ _ _ rfl, BitVec.toNat_and, BitVec.toNat_ofNat, BitVec.toNat_ofNat, Nat.mod_eq_of_lt (by omega), show 65535 % 2 ^ 64 = 2 ^ 16 - 1 by decide, Nat.and_two_pow_sub_one_eq_mod]
  rfl
/-- The groups of the pieces, behind those that are there. -/
def gsG (last : Bool) : List ByteArray → List Int → Option (List Int)
  | [], acc => some acc
  | q :: rest, acc =>
    if last = true ∧ rest = [] ∧ (dotO q).isSome = true then some (acc ++ [(dotO q).getD 0 / 65536, (dotO q).getD 0 % 65536])
    else if grV q < 0 then none else gsG last rest (acc ++ [grV q])
def gsO (t : ByteArray) (last : Bool) : Option (List Int) := if t.size = 0 then some [] else gsG last (spl t 58 t.size 0 0) []
def ints (l : List Int) : List Value := l.map (Value.int .i64)
theorem spl_len (t : ByteArray) (c : Int) : ∀ f p i, 1 ≤ (spl t c f p i).length ∧ (spl t c f p i).length ≤ f + 1 := by
  intro f
  induction f with
  | zero => intro p i; exact ⟨by show 1 ≤ 1; omega, by show 1 ≤ 1; omega⟩
  | succ f ih =>
    intro p i
    unfold spl
    split
    · have := ih (i + 1) (i + 1)
      simp only [List.length_cons]; omega
    · have := ih p (i + 1)
      omega
theorem Tryd.infoI : (Tryd.prog.info? 3).map (fun i => (i.zero, i.size, i.bytes)) = some (some (.int .i64 0), 1, 8) := by kernel_rfl
theorem oneI (n : Int) : ∀ u ∈ [Value.int .i64 n], u.oneCell' = true := by
  intro u hu; simp at hu; subst hu; rfl
theorem twoI (n m : Int) : ∀ u ∈ [Value.int .i64 n, Value.int .i64 m], u.oneCell' = true := by
  intro u hu; simp at hu; rcases hu with rfl | rfl <;> rfl
theorem newsT (W : World) (a b : Value) (t : TypeId) : ∀ j u, [a, b][j]? = some u → (W.alloc (.cells #[a, b] t)).cell? ((⟨W.heap.size, 0, none⟩ : Addr).add j) = some u := by
  intro j u hj
  match j, hj with
  | 0, hj => simp at hj; subst hj; simp [Addr.add, go_sem]
  | 1, hj => simp at hj; subst hj; simp [Addr.add, go_sem]

theorem empty_is (t : ByteArray) : t.toList.isEmpty = decide (t.size = 0) := by
  rw [Lib.toList_data, Lib.size_eq]
  cases t.data.toList <;> simp

end Go.Proofs.YtpchhfhdepkbcaaDoor
/-
  Plain facts: four numbers with points between, as the program reads them and as the reference does.
-/
namespace Go.Proofs.YtpchhfhdepkbcaaDoor
open Go.RowKit
set_option linter.unusedSimpArgs false
set_option linter.unusedVariables false

theorem byteAt_sub (s : ByteArray) (a b k : Nat) (hb : b ≤ s.size) : byteAt (s.extract a b) k = if a + k < b then byteAt s (a + k) else 0 := by
  unfold byteAt
  by_cases h : a + k < b
  · have h2 : k < (s.extract a b).size := by simp; omega
    rw [if_pos h, dif_pos (show a + k < s.size by omega), dif_pos h2]
    congr 2
    rw [ByteArray.getElem_extract]
  · have h2 : ¬ k < (s.extract a b).size := by simp; omega
    rw [if_neg h, dif_neg h2]
theorem size_sub (s : ByteArray) (a b : Nat) (hb : b ≤ s.size) : (s.extract a b).size = b - a := by simp; omega
theorem byteAt_end (s : ByteArray) (k : Nat) (h : s.size ≤ k) : byteAt s k = 0 := by unfold byteAt; rw [dif_neg (by omega)]

theorem spl_scan (t : ByteArray) (c : Int) (p : Nat) : ∀ f i, p ≤ i → i + f = t.size → (∀ k, p ≤ k → k < i → ¬ byteAt t k = c) →
    ∃ j, i ≤ j ∧ j ≤ t.size ∧ (∀ k, p ≤ k → k < j → ¬ byteAt t k = c) ∧ ((j = t.size ∧ spl t c f p i = [t.extract p t.size]) ∨ (j < t.size ∧ byteAt t j = c ∧ spl t c f p i = t.extract p j :: spl t c (t.size - (j + 1)) (j + 1) (j + 1))) := by
  intro f
  induction f with
  | zero => intro i hp hi hn; exact ⟨i, Nat.le_refl _, by omega, hn, Or.inl ⟨by omega, rfl⟩⟩
  | succ f ih =>
    intro i hp hi hn
    by_cases hc : byteAt t i = c
    · refine ⟨i, Nat.le_refl _, by omega, hn, Or.inr ⟨by omega, hc, ?_⟩⟩
      have e : t.size - (i + 1) = f := by omega
      rw [e]; exact if_pos hc
    · obtain ⟨j, h1, h2, h3, h4⟩ := ih (i + 1) (by omega) (by omega) (fun k hk1 hk2 => by
        by_cases q : k = i
        · rw [q]; exact hc
        · exact hn k hk1 (by omega))
      have e : spl t c (f + 1) p i = spl t c f p (i + 1) := if_neg hc
      rw [e]
      exact ⟨j, by omega, h2, h3, h4⟩
/-- The first piece from p on, and the others. -/
theorem spl_next (t : ByteArray) (c : Int) (p : Nat) (hp : p ≤ t.size) :
    ∃ j, p ≤ j ∧ j ≤ t.size ∧ (∀ k, p ≤ k → k < j → ¬ byteAt t k = c) ∧ ((j = t.size ∧ spl t c (t.size - p) p p = [t.extract p t.size]) ∨ (j < t.size ∧ byteAt t j = c ∧ spl t c (t.size - p) p p = t.extract p j :: spl t c (t.size - (j + 1)) (j + 1) (j + 1))) :=
  spl_scan t c p (t.size - p) p (Nat.le_refl _) (by omega) (fun k h1 h2 => by omega)

theorem octG_big (q : ByteArray) : ∀ f k n, 1 ≤ n → octG q f k n = -1 ∨ n * 10 ^ f ≤ octG q f k n := by
  intro f
  induction f with
  | zero => intro k n h; right; show n * 10 ^ 0 ≤ n; simp
  | succ f ih =>
    intro k n h
    by_cases hd : 48 ≤ byteAt q k ∧ byteAt q k ≤ 57
    · have e : octG q (f + 1) k n = octG q f (k + 1) (10 * n + (byteAt q k - 48)) := if_pos hd
      rw [e]
      rcases ih (k + 1) (10 * n + (byteAt q k - 48)) (by omega) with h1 | h1
      · exact Or.inl h1
      · right
        have h2 : (10 * n) * 10 ^ f ≤ (10 * n + (byteAt q k - 48)) * 10 ^ f := Int.mul_le_mul_of_nonneg_right (by omega) (Int.pow_nonneg (by omega))
        have h3 : n * 10 ^ (f + 1) = (10 * n) * 10 ^ f := by rw [Int.pow_succ, Int.mul_comm (10 ^ f) 10, ← Int.mul_assoc, Int.mul_comm n 10]
        omega
    · left; exact if_neg hd

/-- Reading on within a piece that ends at j. -/
theorem num_on (s : ByteArray) (p j : Nat) (hj : j ≤ s.size) (hend : j = s.size ∨ byteAt s j = 46) : ∀ f k n, p + k + f = j → 1 ≤ n → n ≤ 255 →
    ((0 ≤ octG (s.extract p j) f k n ∧ octG (s.extract p j) f k n ≤ 255 → numR (s.extract p s.size) (s.size - p - k) k n = (octG (s.extract p j) f k n, ((j - p : Nat) : Int)))
    ∧ (¬ (0 ≤ octG (s.extract p j) f k n ∧ octG (s.extract p j) f k n ≤ 255) → (numR (s.extract p s.size) (s.size - p - k) k n).2 = 0 ∨ ∃ z : Nat, (numR (s.extract p s.size) (s.size - p - k) k n).2 = z ∧ p + z < j)) := by
  intro f
  induction f with
  | zero =>
    intro k n hk h0 h1
    have e : octG (s.extract p j) 0 k n = n := rfl
    rw [e]
    refine ⟨fun _ => ?_, fun q => absurd ⟨by omega, h1⟩ q⟩
    have hb : ¬ (48 ≤ byteAt (s.extract p s.size) k ∧ byteAt (s.extract p s.size) k ≤ 57) := by
      rw [byteAt_ext]
      rcases hend with h | h
      · rw [byteAt_end s (p + k) (by omega)]; omega
      · rw [show p + k = j by omega, h]; omega
    have : numR (s.extract p s.size) (s.size - p - k) k n = (n, (k : Int)) := by
      cases s.size - p - k with
      | zero => rfl
      | succ f => exact if_neg hb
    rw [this, show j - p = k by omega]
  | succ f ih =>
    intro k n hk h0 h1
    have hkj : p + k < j := by omega
    have e1 : byteAt (s.extract p j) k = byteAt s (p + k) := by rw [byteAt_sub s p j k hj, if_pos hkj]
    have e2 : byteAt (s.extract p s.size) k = byteAt s (p + k) := byteAt_ext s p k
    have ef : s.size - p - k = (s.size - p - (k + 1)) + 1 := by omega
    by_cases hd : 48 ≤ byteAt s (p + k) ∧ byteAt s (p + k) ≤ 57
    · have eo : octG (s.extract p j) (f + 1) k n = octG (s.extract p j) f (k + 1) (10 * n + (byteAt s (p + k) - 48)) := by
        have : octG (s.extract p j) (f + 1) k n = octG (s.extract p j) f (k + 1) (10 * n + (byteAt (s.extract p j) k - 48)) := if_pos (by rw [e1]; exact hd)
        rw [e1] at this; exact this
      have en : numR (s.extract p s.size) (s.size - p - k) k n = if 255 < 10 * n + (byteAt s (p + k) - 48) then (0, 0) else if 10 * n + (byteAt s (p + k) - 48) = 0 then (0, (k : Int) + 1) else numR (s.extract p s.size) (s.size - p - (k + 1)) (k + 1) (10 * n + (byteAt s (p + k) - 48)) := by
        rw [ef]
        have : numR (s.extract p s.size) ((s.size - p - (k + 1)) + 1) k n = if 255 < 10 * n + (byteAt (s.extract p s.size) k - 48) then (0, 0) else if 10 * n + (byteAt (s.extract p s.size) k - 48) = 0 then (0, (k : Int) + 1) else numR (s.extract p s.size) (s.size - p - (k + 1)) (k + 1) (10 * n + (byteAt (s.extract p s.size) k - 48)) := if_pos (by rw [e2]; exact hd)
        rw [e2] at this; exact this
      rw [eo, en]
      by_cases hm : 255 < 10 * n + (byteAt s (p + k) - 48)
      · rw [if_pos hm]
        refine ⟨fun q => ?_, fun _ => Or.inl rfl⟩
        rcases octG_big (s.extract p j) f (k + 1) (10 * n + (byteAt s (p + k) - 48)) (by omega) with h | h
        · omega
        · exfalso
          have h10 : (1 : Int) ≤ 10 ^ f := Int.pow_pos (by omega)
          have h11 : (10 * n + (byteAt s (p + k) - 48)) * 1 ≤ (10 * n + (byteAt s (p + k) - 48)) * 10 ^ f := Int.mul_le_mul_of_nonneg_left h10 (by omega)
          omega
      · rw [if_neg hm, if_neg (by omega)]
        exact ih (k + 1) _ (by omega) (by omega) (by omega)
    · have eo : octG (s.extract p j) (f + 1) k n = -1 := if_neg (by rw [e1]; exact hd)
      have en : numR (s.extract p s.size) (s.size - p - k) k n = (n, (k : Int)) := by
        rw [ef]; exact if_neg (by rw [e2]; exact hd)
      rw [eo, en]
      exact ⟨fun q => by omega, fun _ => Or.inr ⟨k, rfl, hkj⟩⟩
/-- What number tells at p, of the piece from p up to j. -/
theorem num_piece (s : ByteArray) (p j : Nat) (hpj : p ≤ j) (hj : j ≤ s.size) (hend : j = s.size ∨ byteAt s j = 46) (hno : ∀ k, p ≤ k → k < j → ¬ byteAt s k = 46) :
    (0 ≤ octV (s.extract p j) → numV (s.extract p s.size) = octV (s.extract p j) ∧ numN (s.extract p s.size) = ((j - p : Nat) : Int) ∧ 1 ≤ j - p)
    ∧ (octV (s.extract p j) < 0 → numN (s.extract p s.size) = 0 ∨ ∃ z : Nat, numN (s.extract p s.size) = z ∧ p + z < j) := by
  have hsz : (s.extract p j).size = j - p := size_sub s p j hj
  have hsz2 : (s.extract p s.size).size = s.size - p := size_sub s p s.size (Nat.le_refl _)
  have e2 : ∀ k, byteAt (s.extract p s.size) k = byteAt s (p + k) := fun k => byteAt_ext s p k
  unfold numV numN octV
  rw [hsz, hsz2]
  by_cases hpe : p = j
  · subst hpe
    rw [if_pos (Or.inl (by omega))]
    refine ⟨fun q => by omega, fun _ => Or.inl ?_⟩
    have hb : ¬ (48 ≤ byteAt (s.extract p s.size) 0 ∧ byteAt (s.extract p s.size) 0 ≤ 57) := by
      rw [e2, Nat.add_zero]
      rcases hend with h | h
      · rw [byteAt_end s p (by omega)]; omega
      · rw [h]; omega
    have : numR (s.extract p s.size) (s.size - p) 0 0 = (0, 0) := by
      cases s.size - p with
      | zero => rfl
      | succ f => exact if_neg hb
    rw [this]
  have hlt : p < j := by omega
  have e1 : byteAt (s.extract p j) 0 = byteAt s p := by rw [byteAt_sub s p j 0 hj, if_pos (by omega), Nat.add_zero]
  have e20 : byteAt (s.extract p s.size) 0 = byteAt s p := by rw [e2, Nat.add_zero]
  obtain ⟨f, hf⟩ : ∃ f, s.size - p = f + 1 := ⟨s.size - p - 1, by omega⟩
  obtain ⟨g, hg⟩ : ∃ g, j - p = g + 1 := ⟨j - p - 1, by omega⟩
  by_cases hd : 48 ≤ byteAt s p ∧ byteAt s p ≤ 57
  · have en : numR (s.extract p s.size) (s.size - p) 0 0 = if 255 < 10 * 0 + (byteAt s p - 48) then (0, 0) else if 10 * 0 + (byteAt s p - 48) = 0 then (0, ((0 : Nat) : Int) + 1) else numR (s.extract p s.size) f 1 (10 * 0 + (byteAt s p - 48)) := by
      rw [hf]
      have : numR (s.extract p s.size) (f + 1) 0 0 = if 255 < 10 * 0 + (byteAt (s.extract p s.size) 0 - 48) then (0, 0) else if 10 * 0 + (byteAt (s.extract p s.size) 0 - 48) = 0 then (0, ((0 : Nat) : Int) + 1) else numR (s.extract p s.size) f 1 (10 * 0 + (byteAt (s.extract p s.size) 0 - 48)) := if_pos (by rw [e20]; exact hd)
      rw [e20] at this; exact this
    have eo : octG (s.extract p j) (j - p) 0 0 = octG (s.extract p j) g 1 (10 * 0 + (byteAt s p - 48)) := by
      rw [hg]
      have : octG (s.extract p j) (g + 1) 0 0 = octG (s.extract p j) g 1 (10 * 0 + (byteAt (s.extract p j) 0 - 48)) := if_pos (by rw [e1]; exact hd)
      rw [e1] at this; exact this
    rw [en, eo, if_neg (show ¬ (255 : Int) < 10 * 0 + (byteAt s p - 48) by omega)]
    by_cases hz : byteAt s p = 48
    · rw [if_pos (show 10 * (0 : Int) + (byteAt s p - 48) = 0 by omega)]
      by_cases h1 : 1 < j - p
      · rw [if_pos (Or.inr (Or.inr ⟨h1, by rw [e1]; exact hz⟩))]
        exact ⟨fun q => by omega, fun _ => Or.inr ⟨1, by simp, by omega⟩⟩
      · have hg0 : g = 0 := by omega
        rw [if_neg (by omega), hg0]
        have : octG (s.extract p j) 0 1 (10 * 0 + (byteAt s p - 48)) = 0 := by show 10 * 0 + (byteAt s p - 48) = 0; omega
        rw [this, if_neg (by omega)]
        exact ⟨fun _ => ⟨rfl, by simp; omega, by omega⟩, fun q => by omega⟩
    · rw [if_neg (show ¬ 10 * (0 : Int) + (byteAt s p - 48) = 0 by omega)]
      have hf1 : s.size - p - 1 = f := by omega
      have hon := num_on s p j hj hend g 1 (10 * 0 + (byteAt s p - 48)) (by omega) (by omega) (by omega)
      rw [hf1] at hon
      by_cases h3 : 3 < j - p
      · rw [if_pos (Or.inr (Or.inl h3))]
        refine ⟨fun q => by omega, fun _ => ?_⟩
        apply hon.2
        rcases octG_big (s.extract p j) g 1 (10 * 0 + (byteAt s p - 48)) (by omega) with h | h
        · omega
        · have h10 : (1000 : Int) ≤ 10 ^ g := by
            have : (10 : Int) ^ 3 ≤ 10 ^ g := by
              have : (10 : Nat) ^ 3 ≤ 10 ^ g := Nat.pow_le_pow_right (by omega) (by omega)
              exact_mod_cast this
            omega
          have h11 : 1 * 10 ^ g ≤ (10 * 0 + (byteAt s p - 48)) * 10 ^ g := Int.mul_le_mul_of_nonneg_right (by omega) (Int.pow_nonneg (by omega))
          omega
      · rw [if_neg (by rw [e1]; omega)]
        by_cases hb : 255 < octG (s.extract p j) g 1 (10 * 0 + (byteAt s p - 48))
        · rw [if_pos hb]
          exact ⟨fun q => by omega, fun _ => hon.2 (by omega)⟩
        · rw [if_neg hb]
          refine ⟨fun q => ?_, fun q => hon.2 (by omega)⟩
          have := hon.1 ⟨q, by omega⟩
          rw [this]
          exact ⟨rfl, rfl, by omega⟩
  · have en : numR (s.extract p s.size) (s.size - p) 0 0 = (0, 0) := by
      rw [hf]; exact if_neg (by rw [e20]; exact hd)
    have eo : octG (s.extract p j) (j - p) 0 0 = -1 := by
      rw [hg]; exact if_neg (by rw [e1]; exact hd)
    rw [en, eo]
    refine ⟨fun q => ?_, fun _ => Or.inl rfl⟩
    split at q <;> omega
end Go.Proofs.YtpchhfhdepkbcaaDoor
