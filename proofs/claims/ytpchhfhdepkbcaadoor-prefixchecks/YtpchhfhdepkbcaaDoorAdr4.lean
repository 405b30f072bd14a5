/-
  What the call of package addr's readFour does.
-/
import Derived.Test.YtpchhfhdepkbcaaDoorAdr
import Derived.WalkMore
import Derived.Deep.LoopGhost
namespace Go.Proofs.YtpchhfhdepkbcaaDoor
open Go.RowKit
set_option linter.unusedSimpArgs false
set_option linter.unusedVariables false

theorem numR_bd (t : ByteArray) : ∀ f k n, 0 ≤ n → n ≤ 255 → 0 ≤ (numR t f k n).1 ∧ (numR t f k n).1 ≤ 255 ∧ 0 ≤ (numR t f k n).2 ∧ (numR t f k n).2 ≤ (k : Int) + f := by
  intro f
  induction f with
  | zero => intro k n h0 h1; exact ⟨h0, h1, by show (0 : Int) ≤ (k : Int); omega, by show (k : Int) ≤ _; omega⟩
  | succ f ih =>
    intro k n h0 h1
    show 0 ≤ (if _ then _ else _ : Int × Int).1 ∧ (if _ then _ else _ : Int × Int).1 ≤ 255 ∧ 0 ≤ (if _ then _ else _ : Int × Int).2 ∧ (if _ then _ else _ : Int × Int).2 ≤ _
    split
    · split
      · simp; omega
      · split
        · simp; omega
        · have := ih (k + 1) (10 * n + (byteAt t k - 48)) (by omega) (by omega)
          omega
    · simp; omega
theorem num_bd (t : ByteArray) : 0 ≤ numV t ∧ numV t ≤ 255 ∧ 0 ≤ numN t ∧ numN t ≤ t.size := by
  have := numR_bd t t.size 0 0 (by omega) (by omega)
  unfold numV numN; omega

/-- Four numbers with points between, from number i on, at place a, x being laid. -/
def fourR (s : ByteArray) : Nat → Nat → Nat → BitVec 128 → BitVec 128 × Bool
  | 0, _, _, _ => (0#128, false)
  | f + 1, i, a, x =>
    if numN (s.extract a s.size) = 0 then (0#128, false)
    else if i = 3 then (layW x i 8 (numV (s.extract a s.size)), decide (a + (numN (s.extract a s.size)).toNat = s.size))
    else if a + (numN (s.extract a s.size)).toNat = s.size ∨ byteAt s (a + (numN (s.extract a s.size)).toNat) ≠ 46 then (0#128, false)
    else fourR s f (i + 1) (a + (numN (s.extract a s.size)).toNat + 1) (layW x i 8 (numV (s.extract a s.size)))
def fourV (s : ByteArray) : BitVec 128 := (fourR s 4 0 0 0#128).1
def fourB (s : ByteArray) : Bool := (fourR s 4 0 0 0#128).2

theorem at_new (w : World) (B : Nat) (x : BitVec 128) (T : TypeId) (h : B = w.heap.size) : At (w.alloc (.cells #[.int .u64 (hI x), .int .u64 (lI x)] T)) B x := by
  subst h
  refine ⟨?_, ?_, ?_, ?_, ?_⟩ <;> simp [go_sem]

theorem bset2 {n C : Nat} {w W : World} (h : Below n w W) (hp : n ≤ C) (u v : Value) : Below n w ((W.setCell ⟨C, 0, none⟩ u).setCell ⟨C, 1, none⟩ v) := (h.setCell hp _).setCell hp _

set_option maxHeartbeats 4000000 in
theorem readFour_any (s : ByteArray) (w : World) (hs : s.size ≤ maxLen) :
    Calls Tryd.prog 54 #[.string s] w fun e w' => e = .returned (.tuple #[.agg #[.int .u64 (hI (fourV s)), .int .u64 (lI (fourV s))], .bool (fourB s)]) ∧ Below w.heap.size w w' := by
  have KN := fun a w => number_any (s.extract a s.size) w (by simp; omega)
  unfold maxLen at hs
  go_enter Tryd.func54, Tryd.ntmps54
  go_wp2
  go_step3
  go_wp2
  go_step3
  go_wp2
  go_loopw [5, 9] (fun p q wr => ∃ (i a : Nat) (x : BitVec 128), p = .int .i64 a ∧ q = .int .i64 i ∧ i ≤ 3 ∧ a ≤ s.size ∧ Hid (fourR s (4 - i) i a x = fourR s 4 0 0 0#128) ∧ At wr (w.heap.size + 1) x ∧ At wr w.heap.size 0#128 ∧ Below w.heap.size w wr) (fun _ q _ => 4 - (intOf q).toNat)
  case atStart =>
    refine ⟨0, 0, 0#128, rfl, rfl, by omega, by omega, rfl, ?_, ?_, bl2 _ _ _⟩
    · refine ⟨?_, ?_, ?_, ?_, ?_⟩ <;> simp [go_sem, hI_zero, lI_zero]
    · refine ⟨?_, ?_, ?_, ?_, ?_⟩ <;> simp [go_sem, hI_zero, lI_zero]
  case round =>
    obtain ⟨i, a, x, rfl, rfl, hi, ha, HR, hA, hZ, hB⟩ := hrel
    have bd := num_bd (s.extract a s.size)
    have ez : (s.extract a s.size).size = s.size - a := by simp
    rw [ez] at bd
    have HU : Hid (4 - i = (4 - (i + 1)) + 1) := by show _ = _; omega
    have HS : Hid (∀ f, fourR s (f + 1) i a x = if numN (s.extract a s.size) = 0 then (0#128, false) else if i = 3 then (layW x i 8 (numV (s.extract a s.size)), decide (a + (numN (s.extract a s.size)).toNat = s.size))
      else if a + (numN (s.extract a s.size)).toNat = s.size ∨ byteAt s (a + (numN (s.extract a s.size)).toNat) ≠ 46 then (0#128, false)
      else fourR s f (i + 1) (a + (numN (s.extract a s.size)).toNat + 1) (layW x i 8 (numV (s.extract a s.size)))) := fun _ => rfl
    have KA := KN a
    clear KN ez
    generalize numV (s.extract a s.size) = v at *
    generalize numN (s.extract a s.size) = z at *
    obtain ⟨v0, v1, z0, z1⟩ := bd
    obtain ⟨z, rfl⟩ := Int.eq_ofNat_of_zero_le z0
    simp only [Int.toNat_natCast] at HS
    have hi4 : (i : Int) < 4 := by omega
    have hlo : (a : Int) ≤ s.size := by omega
    obtain ⟨a0, a1, a2, a3, a4⟩ := id hA
    go_wp2_with fail
    refine (KA _).mono ?_
    rintro e w1 ⟨rfl, rfl⟩
    clear KA
    go_wp2_with fail
    refine (aput_any x i 8 v _ v0 (by omega) (by omega) (by omega) (by omega) (by omega)).mono ?_
    rintro e w2 ⟨rfl, hb2⟩
    have hA2 := (hA.below hb2).set (layW x i 8 v)
    have hZ2 := (hZ.below hb2).other (.int .u64 (hI (layW x i 8 v))) (.int .u64 (lI (layW x i 8 v))) (C := w.heap.size + 1) (by omega)
    have hB2 := bset2 (keepb hb2 hB) (C := w.heap.size + 1) (by omega) (.int .u64 (hI (layW x i 8 v))) (.int .u64 (lI (layW x i 8 v)))
    obtain ⟨b0, b1, b2, b3, b4⟩ := hA.below hb2
    obtain ⟨y0, y1, y2, y3, y4⟩ := hZ.below hb2
    clear hA hZ hB hb2 a0 a1 a2 a3 a4
    generalize layW x i 8 v = x' at *
    have hsum : IntKind.i64.wrap ((a : Int) + z) = ((a + z : Nat) : Int) := by rw [IntKind.wrap_i64]; omega
    by_cases hz : z = 0
    · have HF : Hid (fourV s = 0#128 ∧ fourB s = false) := by
        show _ ∧ _
        unfold fourV fourB; rw [← HR.out, HU.out, HS.out, if_pos (by omega)]; exact ⟨rfl, rfl⟩
      clear HR HU HS
      subst hz
      go_wp2
      rw [Exit.noGoto_ret]
      exact bodyPost_ret (v := .tuple #[.agg #[.int .u64 0, .int .u64 0], .bool false]) (by simp [results, Tryd.results54, go_sem, *]) rfl ⟨by rw [HF.out.1, HF.out.2, hI_zero, lI_zero], bset2 hB2 (Nat.le_refl _) _ _⟩
    have hz' : ¬ (z : Int) = 0 := by omega
    by_cases h3 : i = 3
    · have HF : Hid (fourV s = x' ∧ fourB s = decide (a + z = s.size)) := by
        show _ ∧ _
        unfold fourV fourB; rw [← HR.out, HU.out, HS.out, if_neg hz', if_pos h3]; exact ⟨rfl, rfl⟩
      clear HR HU HS
      subst h3
      have hd : (((a : Int) + z) == (s.size : Int)) = decide (a + z = s.size) := by rw [Bool.eq_iff_iff]; simp; omega
      go_wp2
      rw [Exit.noGoto_ret]
      exact bodyPost_ret (v := .tuple #[.agg #[.int .u64 (hI x'), .int .u64 (lI x')], .bool (decide (a + z = s.size))]) (by simp [results, Tryd.results54, go_sem, *]) rfl ⟨by rw [HF.out.1, HF.out.2], bset2 hB2 (Nat.le_refl _) _ _⟩
    have h3' : ¬ (i : Int) = 3 := by omega
    by_cases he : a + z = s.size
    · have HF : Hid (fourV s = 0#128 ∧ fourB s = false) := by
        show _ ∧ _
        unfold fourV fourB; rw [← HR.out, HU.out, HS.out, if_neg hz', if_neg h3, if_pos (Or.inl he)]; exact ⟨rfl, rfl⟩
      clear HR HU HS
      have hq : (a : Int) + z = (s.size : Int) := by omega
      go_wp2
      rw [Exit.noGoto_ret]
      exact bodyPost_ret (v := .tuple #[.agg #[.int .u64 0, .int .u64 0], .bool false]) (by simp [results, Tryd.results54, go_sem, *]) rfl ⟨by rw [HF.out.1, HF.out.2, hI_zero, lI_zero], bset2 hB2 (Nat.le_refl _) _ _⟩
    obtain ⟨m, HM⟩ : ∃ m, Hid (a + z = m) := ⟨_, rfl⟩
    simp only [HM.out] at HS he
    have hms : m < s.size := by have := HM.out; omega
    have hbt := byteAt_in s m hms
    have hm : (a : Int) + (z : Int) = (m : Int) := by have := HM.out; omega
    clear z1 hsum HM
    have hme : ¬ (m : Int) = (s.size : Int) := by omega
    have hsum : IntKind.i64.wrap (m : Int) = (m : Int) := by rw [IntKind.wrap_i64]; omega
    have hsu1 : IntKind.i64.wrap ((m : Int) + 1) = (m : Int) + 1 := by rw [IntKind.wrap_i64]; omega
    by_cases hc : byteAt s m = 46
    · have HF : Hid (fourR s (4 - (i + 1)) (i + 1) (m + 1) x' = fourR s 4 0 0 0#128) := by
        show _ = _
        rw [← HR.out, HU.out, HS.out, if_neg hz', if_neg h3, if_neg (by simp [he, hc])]
      clear HR HU HS
      rw [hc] at hbt
      clear hc
      go_wp2
      go_roundw
      case rel => exact ⟨i + 1, m + 1, x', by go_num, by go_num, by omega, by omega, HF, hA2, hZ2, hB2⟩
      case measure => simp [intOf]; omega
    · have HF : Hid (fourV s = 0#128 ∧ fourB s = false) := by
        show _ ∧ _
        unfold fourV fourB; rw [← HR.out, HU.out, HS.out, if_neg hz', if_neg h3, if_pos (Or.inr hc)]; exact ⟨rfl, rfl⟩
      clear HR HU HS
      generalize byteAt s m = c at *
      have hcb : (c != 46) = true := by simp [hc]
      go_wp2
      rw [Exit.noGoto_ret]
      exact bodyPost_ret (v := .tuple #[.agg #[.int .u64 0, .int .u64 0], .bool false]) (by simp [results, Tryd.results54, go_sem, *]) rfl ⟨by rw [HF.out.1, HF.out.2, hI_zero, lI_zero], bset2 hB2 (Nat.le_refl _) _ _⟩
end Go.Proofs.YtpchhfhdepkbcaaDoor
