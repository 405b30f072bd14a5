/-
  What the calls of package word's digit and Parse do.
-/
import Derived.Test.YtkahilfklgobpaaFld
import Derived.Test.YtkahilfklgobpaaRefW2
namespace Go.Proofs.Ytkahilfklgobpaa
open Go.RowKit
set_option linter.unusedSimpArgs false
set_option linter.unusedVariables false

/-- Is the byte a digit of sixteen, and which number is it? -/
def digB (c : Int) : Bool := (decide (48 ≤ c) && decide (c ≤ 57)) || (decide (97 ≤ c) && decide (c ≤ 102))
def digV (c : Int) : Int := if 48 ≤ c ∧ c ≤ 57 then c - 48 else if 97 ≤ c ∧ c ≤ 102 then c - 87 else 0
theorem dig_ways (c : Int) : (c < 48 ∧ digB c = false ∧ digV c = 0) ∨ (48 ≤ c ∧ c ≤ 57 ∧ digB c = true ∧ digV c = c - 48) ∨ (57 < c ∧ c < 97 ∧ digB c = false ∧ digV c = 0) ∨ (97 ≤ c ∧ c ≤ 102 ∧ digB c = true ∧ digV c = c - 97 + 10) ∨ (102 < c ∧ digB c = false ∧ digV c = 0) := by
  unfold digB digV
  by_cases h1 : c < 48
  · left
    have a1 : ¬ 48 ≤ c := by omega
    have a2 : ¬ 97 ≤ c := by omega
    simp [a1, a2, h1]
  by_cases h2 : c ≤ 57
  · right; left
    have a1 : 48 ≤ c := by omega
    simp [a1, h2]
  by_cases h3 : c < 97
  · right; right; left
    have a2 : ¬ 97 ≤ c := by omega
    simp [h2, a2, h3]; omega
  by_cases h4 : c ≤ 102
  · right; right; right; left
    have a2 : 97 ≤ c := by omega
    simp [h2, a2, h4]; omega
  · right; right; right; right
    simp [h2, h4]; omega
theorem digV_bd (c : Int) : 0 ≤ digV c ∧ digV c ≤ 15 := by
  unfold digV; split
  · omega
  · split <;> omega

set_option maxHeartbeats 1000000 in
theorem digit_any (c : Int) (w : World) (h0 : 0 ≤ c) (h1 : c ≤ 255) :
    Calls Try.prog 45 #[.int .u8 c] w fun e w' => e = .returned (.tuple #[.int .u64 (digV c), .bool (digB c)]) ∧ w' = w := by
  rcases dig_ways c with ⟨a, p, q⟩ | ⟨a, b, p, q⟩ | ⟨a, b, p, q⟩ | ⟨a, b, p, q⟩ | ⟨a, p, q⟩
  all_goals
    rw [p, q]
    clear p q
    go_enter Try.func45, Try.ntmps45
    go_wp2
    go_ret2
  all_goals exact ⟨rfl, rfl⟩

/-- The byte at place k, as a number (0 where there is none). -/
def byteAt (s : ByteArray) (k : Nat) : Int := if h : k < s.size then (s[k].toNat : Int) else 0
theorem byteAt_in (s : ByteArray) (k : Nat) (h : k < s.size) : (s[k].toNat : Int) = byteAt s k := by unfold byteAt; rw [dif_pos h]
theorem byteAt_bd (s : ByteArray) (k : Nat) : 0 ≤ byteAt s k ∧ byteAt s k ≤ 255 := by
  unfold byteAt; split
  · rename_i h; have := s[k].toNat_lt; omega
  · omega
/-- The word of the first k digits. -/
def pW (s : ByteArray) : Nat → BitVec 128
  | 0 => 0#128
  | k + 1 => (pW s k <<< 4) ||| mkW 0 (digV (byteAt s k))
def pAll (s : ByteArray) : Nat → Bool
  | 0 => true
  | k + 1 => pAll s k && digB (byteAt s k)

set_option maxHeartbeats 2000000 in
theorem parse_len (s : ByteArray) (w : World) (hs : s.size ≤ maxLen) (h : ¬ s.size = 32) :
    Calls Try.prog 35 #[.string s] w fun e w' => e = .returned (.tuple #[.agg #[.int .u64 0, .int .u64 0], .int .i64 12]) ∧ Below w.heap.size w w' := by
  unfold maxLen at hs
  have h2 : ((s.size : Int) == 32) = false := by simp; omega
  have h3 : ¬ (s.size : Int) = 32 := by omega
  go_enter Try.func35, Try.ntmps35
  go_wp2
  exact bodyPost_ret (v := .tuple #[.agg #[.int .u64 0, .int .u64 0], .int .i64 12]) (by simp [results, Try.results35, go_sem]) rfl ⟨rfl, bl1 _ _⟩

theorem pAll_le (s : ByteArray) : ∀ k m, k ≤ m → pAll s m = true → pAll s k = true := by
  intro k m h
  induction m with
  | zero => intro q; have : k = 0 := by omega
            subst this; exact q
  | succ m ih =>
    intro q
    by_cases e : k = m + 1
    · subst e; exact q
    · simp only [pAll, Bool.and_eq_true] at q
      exact ih (by omega) q.1
theorem orK (x : BitVec 128) (v : Int) (w : World) (h0 : 0 ≤ v) (h1 : v ≤ 15) :
    Calls Try.prog 15 #[.agg #[.int .u64 (hI x), .int .u64 (lI x)], .agg #[.int .u64 0, .int .u64 v]] w fun e w' => e = .returned (.agg #[.int .u64 (hI (x ||| mkW 0 v)), .int .u64 (lI (x ||| mkW 0 v))]) ∧ Below w.heap.size w w' := by
  have h := or_any x (mkW 0 v) w
  rw [show hI (mkW 0 v) = 0 from hI_mk 0 v (by omega) (by omega), show lI (mkW 0 v) = v from lI_mk 0 v (by omega) (by omega)] at h
  exact h
/-- What Parse tells of 32 signs. -/
def pOut (s : ByteArray) : BitVec 128 := if pAll s 32 = true then pW s 32 else 0#128
def pErr (s : ByteArray) : Int := if pAll s 32 = true then 0 else 12

set_option maxHeartbeats 2000000 in
theorem parse_32 (s : ByteArray) (w : World) (h : s.size = 32) :
    Calls Try.prog 35 #[.string s] w fun e w' => e = .returned (.tuple #[.agg #[.int .u64 (hI (pOut s)), .int .u64 (lI (pOut s))], .int .i64 (pErr s)]) ∧ Below w.heap.size w w' := by
  have HS : Hid (s.size = 32) := h
  have h3 : (s.size : Int) = 32 := by omega
  clear h
  go_enter Try.func35, Try.ntmps35
  go_wp2
  go_loopw [12] (fun i wr => ∃ k : Nat, k ≤ 32 ∧ i = .int .i64 k ∧ Hid (pAll s k = true) ∧ At wr (w.heap.size + 1) (pW s k) ∧ At wr w.heap.size 0#128 ∧ Below w.heap.size w wr)
    (fun i _ => 32 - (intOf i).toNat)
  case atStart =>
    refine ⟨0, by omega, rfl, rfl, ?_, ?_, bl2 _ _ _⟩
    · show At _ _ 0#128
      refine ⟨?_, ?_, ?_, ?_, ?_⟩ <;> simp [go_sem, hI_zero, lI_zero]
    · refine ⟨?_, ?_, ?_, ?_, ?_⟩ <;> simp [go_sem, hI_zero, lI_zero]
  case round =>
    obtain ⟨k, hk, rfl, hp, hA, hR, hB⟩ := hrel
    by_cases hlt : (k : Int) < 32
    · have hks : k < s.size := by rw [HS.out]; omega
      have hbt := byteAt_in s k hks
      have bd := byteAt_bd s k
      have KD := fun w => digit_any (byteAt s k) w bd.1 bd.2
      have vd := digV_bd (byteAt s k)
      have KO := fun x w => orK x (digV (byteAt s k)) w vd.1 vd.2
      have HW : Hid (pW s (k + 1) = (pW s k <<< 4) ||| mkW 0 (digV (byteAt s k))) := rfl
      have HP : Hid (pAll s (k + 1) = (pAll s k && digB (byteAt s k))) := rfl
      generalize byteAt s k = c at *
      obtain ⟨a0, a1, a2, a3, a4⟩ := id hA
      obtain ⟨r0, r1, r2, r3, r4⟩ := id hR
      cases hd : digB c
      · rw [hd] at KD
        have HF : Hid (pOut s = 0#128 ∧ pErr s = 12) := by
          have q : pAll s (k + 1) = false := by rw [HP.out, hd]; simp
          have q2 : ¬ pAll s 32 = true := fun e => by have := pAll_le s (k + 1) 32 (by omega) e; rw [q] at this; cases this
          show _ ∧ _
          unfold pOut pErr; rw [if_neg q2, if_neg q2]; exact ⟨rfl, rfl⟩
        clear hd HP HW KO vd bd
        go_wp2_with fail
        refine (KD _).mono ?_
        rintro e w1 ⟨rfl, rfl⟩
        go_wp2
        exact bodyPost_ret (v := .tuple #[.agg #[.int .u64 0, .int .u64 0], .int .i64 12]) (by simp [results, Try.results35, go_sem, *]) rfl ⟨by rw [HF.out.1, HF.out.2, hI_zero, lI_zero], (hB.setCell (by simp) _).setCell (by simp) _⟩
      · rw [hd] at KD
        have hp' : Hid (pAll s (k + 1) = true) := by show _ = _; rw [HP.out, hp.out, hd]; rfl
        generalize digV c = v at *
        clear hd HP bd hp vd
        go_wp2_with fail
        refine (KD _).mono ?_
        rintro e w1 ⟨rfl, rfl⟩
        clear KD
        go_wp2_with fail
        refine (shl_any _ _ _).mono ?_
        rintro e w2 ⟨rfl, hb2⟩
        go_wp2_with fail
        refine (KO _ _).mono ?_
        rintro e w3 ⟨rfl, hb3⟩
        clear KO
        have hA3 := (hA.below hb2).below hb3
        have hR3 := (hR.below hb2).below hb3
        have kB3 := keepb hb3 (keepb hb2 hB)
        clear hA hR hB hb2 hb3 a0 a1 a2 a3 a4 r0 r1 r2 r3 r4
        obtain ⟨b0, b1, b2, b3, b4⟩ := id hA3
        go_wp2
        go_roundw
        case rel => exact ⟨k + 1, by omega, by go_num, hp', by rw [HW.out]; exact hA3.set _, hR3.other _ _ (by omega), (kB3.setCell (by simp) _).setCell (by simp) _⟩
        case measure => simp [intOf]; omega
    · have hk8 : k = 32 := by omega
      subst hk8
      have HF : Hid (pOut s = pW s 32 ∧ pErr s = 0) := by show _ ∧ _; unfold pOut pErr; rw [if_pos hp.out, if_pos hp.out]; exact ⟨rfl, rfl⟩
      obtain ⟨a0, a1, a2, a3, a4⟩ := hA
      obtain ⟨r0, r1, r2, r3, r4⟩ := hR
      clear hlt hp
      go_wp2
      exact bodyPost_ret (v := .tuple #[.agg #[.int .u64 (hI (pW s 32)), .int .u64 (lI (pW s 32))], .int .i64 0]) (by simp [results, Try.results35, go_sem, *]) rfl ⟨by rw [HF.out.1, HF.out.2], (hB.setCell (by simp) _).setCell (by simp) _⟩
end Go.Proofs.Ytkahilfklgobpaa
