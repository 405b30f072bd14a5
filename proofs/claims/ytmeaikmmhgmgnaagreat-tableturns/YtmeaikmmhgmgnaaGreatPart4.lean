/-
  Part 4 of the proof: 1 texts, one behind the other.
-/
import Derived.Test.YtmeaikmmhgmgnaaGreatPart3
namespace Go.Proofs.YtmeaikmmhgmgnaaGreat
open Go.RowKit
set_option linter.unusedSimpArgs false
set_option linter.unusedVariables false

def quadA (s : ByteArray) : Int := lI ((fourV s <<< (16 * (0 : Int)).toNat) >>> (128 - (16 : Int)).toNat)
def quadB (s : ByteArray) : Int := lI ((fourV s <<< (16 * (1 : Int)).toNat) >>> (128 - (16 : Int)).toNat)
theorem part16_bd (x : BitVec 128) (i : Int) : 0 ≤ lI ((x <<< (16 * i).toNat) >>> (128 - (16 : Int)).toNat) ∧ lI ((x <<< (16 * i).toNat) >>> (128 - (16 : Int)).toNat) ≤ 65535 := by
  generalize x <<< (16 * i).toNat = y
  refine ⟨lI_lo _, ?_⟩
  unfold lI lv
  rw [BitVec.extractLsb'_toNat]
  have : (y >>> (128 - (16 : Int)).toNat).toNat < 65536 := by
    rw [BitVec.toNat_ushiftRight, show (128 - (16 : Int)).toNat = 112 from rfl, Nat.shiftRight_eq_div_pow]
    have := y.isLt
    omega
  rw [Nat.shiftRight_zero, Nat.mod_eq_of_lt (by omega)]
  omega
theorem quadA_bd (s : ByteArray) : 0 ≤ quadA s ∧ quadA s ≤ 65535 := part16_bd _ _
theorem quadB_bd (s : ByteArray) : 0 ≤ quadB s ∧ quadB s ≤ 65535 := part16_bd _ _

theorem partA (s : ByteArray) (w : World) :
    Calls Tryz.prog 133 #[.agg #[.int .u64 (hI (fourV s)), .int .u64 (lI (fourV s))], .int .i64 0, .int .i64 16] w fun e w' => e = .returned (.int .u64 (quadA s)) ∧ Below w.heap.size w w' :=
  part_any (fourV s) 0 16 w (by omega) (by omega) (by omega) (by omega)
theorem partB (s : ByteArray) (w : World) :
    Calls Tryz.prog 133 #[.agg #[.int .u64 (hI (fourV s)), .int .u64 (lI (fourV s))], .int .i64 1, .int .i64 16] w fun e w' => e = .returned (.int .u64 (quadB s)) ∧ Below w.heap.size w w' :=
  part_any (fourV s) 1 16 w (by omega) (by omega) (by omega) (by omega)

set_option maxHeartbeats 2000000 in
theorem addFour_no (B : Nat) (s : ByteArray) (w : World) (hs : s.size ≤ maxLen) (h : fourB s = false) (hB : B < w.heap.size) :
    Calls Tryz.prog 121 #[.pointer (some ⟨B, 0, none⟩), .string s] w fun e w' => e = .returned (.bool false) ∧ Below B w w' := by
  have KR := fun w => readFour_any s w hs
  rw [h] at KR
  generalize fourV s = x at *
  go_enter Tryz.func121, Tryz.ntmps121
  go_wp2_with fail
  refine (KR _).mono ?_
  rintro e w1 ⟨rfl, hb1⟩
  clear KR
  go_wp2
  go_ret
  exact ⟨rfl, (hb1.alloc hb1.size _).mono (by omega)⟩

set_option maxHeartbeats 2000000 in
theorem addFour_yes (B : Nat) (f : Nat → Int) (c : Nat) (p : Int) (s : ByteArray) (w : World) (hs : s.size ≤ maxLen) (h : fourB s = true) (hF : Fnd w B f c p) (hc : c ≤ 6) :
    Calls Tryz.prog 121 #[.pointer (some ⟨B, 0, none⟩), .string s] w fun e w' => e = .returned (.bool true) ∧ Fnd w' B (upd (upd f c (quadA s)) (c + 1) (quadB s)) (c + 2) p ∧ Below B w w' := by
  have KR := fun w => readFour_any s w hs
  have KA := partA s
  have KB := partB s
  rw [h] at KR
  generalize quadA s = qa at *
  generalize quadB s = qb at *
  generalize fourV s = x at *
  have hBw : B < w.heap.size := hF.2.2.2.2.2
  go_enter Tryz.func121, Tryz.ntmps121
  go_wp2_with fail
  refine (KR _).mono ?_
  rintro e w1 ⟨rfl, hb1⟩
  clear KR
  have hB1 := hb1.size
  have hF1 : Fnd (w1.alloc (.cells #[.int .u64 (hI x), .int .u64 (lI x)] 35)) B f c p := (hF.below hb1).below (bl1 _ _)
  have hX1 := at_new w1 w1.heap.size x 35 rfl
  have kB1 : Below B w (w1.alloc (.cells #[.int .u64 (hI x), .int .u64 (lI x)] 35)) := (hb1.mono (by omega)).alloc (by omega) _
  clear hF hb1
  obtain ⟨x0, x1, x2, x3, x4⟩ := id hX1
  go_wp2_with fail
  refine (KA _).mono ?_
  rintro e w2 ⟨rfl, hb2⟩
  clear KA
  have hF2 := hF1.below hb2
  have hX2 := hX1.below hb2
  have kB2 : Below B w w2 := kB1.trans (hb2.mono (by simp; omega))
  clear hF1 hX1 kB1 hb2 x0 x1 x2 x3 x4
  have hBw2 := kB2.size
  go_wp2_with fail
  refine (fadd_any B f c p qa w2 hF2 (by omega)).mono ?_
  rintro e w3 ⟨rfl, hF3, hb3, ho3⟩
  have hX3 := hX2.only ho3 (by omega)
  have kB3 : Below B w w3 := kB2.trans hb3
  have hz3 := ho3.1
  clear hF2 hX2 kB2 hb3 ho3
  obtain ⟨x0, x1, x2, x3, x4⟩ := id hX3
  go_wp2_with fail
  refine (KB _).mono ?_
  rintro e w4 ⟨rfl, hb4⟩
  clear KB
  have hF4 := hF3.below hb4
  have kB4 : Below B w w4 := kB3.trans (hb4.mono (by have := hF3.2.2.2.2.2; omega))
  clear hF3 hX3 kB3 hb4 x0 x1 x2 x3 x4 hz3
  go_wp2_with fail
  refine (fadd_any B (upd f c qa) (c + 1) p qb w4 hF4 (by omega)).mono ?_
  rintro e w5 ⟨rfl, hF5, hb5, ho5⟩
  have kB5 : Below B w w5 := kB4.trans hb5
  clear hF4 kB4 hb5 ho5
  go_wp2
  go_ret
  exact ⟨rfl, hF5, kB5⟩
set_option maxHeartbeats 2000000 in
theorem addFour_full (B : Nat) (f : Nat → Int) (c : Nat) (p : Int) (s : ByteArray) (w : World) (hs : s.size ≤ maxLen) (h : fourB s = true) (hF : Fnd w B f c p) (hc : c = 7 ∨ c = 8) :
    Calls Tryz.prog 121 #[.pointer (some ⟨B, 0, none⟩), .string s] w fun e w' => e = .returned (.bool false) ∧ Below B w w' := by
  have KR := fun w => readFour_any s w hs
  have KA := partA s
  have KB := partB s
  rw [h] at KR
  generalize quadA s = qa at *
  generalize quadB s = qb at *
  generalize fourV s = x at *
  have hBw : B < w.heap.size := hF.2.2.2.2.2
  go_enter Tryz.func121, Tryz.ntmps121
  go_wp2_with fail
  refine (KR _).mono ?_
  rintro e w1 ⟨rfl, hb1⟩
  clear KR
  have hB1 := hb1.size
  have hF1 : Fnd (w1.alloc (.cells #[.int .u64 (hI x), .int .u64 (lI x)] 35)) B f c p := (hF.below hb1).below (bl1 _ _)
  have hX1 := at_new w1 w1.heap.size x 35 rfl
  have kB1 : Below B w (w1.alloc (.cells #[.int .u64 (hI x), .int .u64 (lI x)] 35)) := (hb1.mono (by omega)).alloc (by omega) _
  clear hF hb1
  obtain ⟨x0, x1, x2, x3, x4⟩ := id hX1
  go_wp2_with fail
  refine (KA _).mono ?_
  rintro e w2 ⟨rfl, hb2⟩
  clear KA
  have hF2 := hF1.below hb2
  have hX2 := hX1.below hb2
  have kB2 : Below B w w2 := kB1.trans (hb2.mono (by simp; omega))
  clear hF1 hX1 kB1 hb2 x0 x1 x2 x3 x4
  have hBw2 := kB2.size
  rcases hc with rfl | rfl
  · go_wp2_with fail
    refine (fadd_any B f 7 p qa w2 hF2 (by omega)).mono ?_
    rintro e w3 ⟨rfl, hF3, hb3, ho3⟩
    have hX3 := hX2.only ho3 (by omega)
    have kB3 : Below B w w3 := kB2.trans hb3
    have hz3 := ho3.1
    clear hF2 hX2 kB2 hb3 ho3
    obtain ⟨x0, x1, x2, x3, x4⟩ := id hX3
    go_wp2_with fail
    refine (KB _).mono ?_
    rintro e w4 ⟨rfl, hb4⟩
    clear KB
    have hF4 := hF3.below hb4
    have kB4 : Below B w w4 := kB3.trans (hb4.mono (by have := hF3.2.2.2.2.2; omega))
    clear hF3 hX3 kB3 hb4 x0 x1 x2 x3 x4 hz3
    go_wp2_with fail
    refine (fadd_full B (upd f 7 qa) p qb w4 hF4).mono ?_
    rintro e w5 ⟨rfl, rfl⟩
    go_wp2
    go_ret
    exact ⟨rfl, kB4⟩
  · go_wp2_with fail
    refine (fadd_full B f p qa w2 hF2).mono ?_
    rintro e w3 ⟨rfl, rfl⟩
    go_wp2
    go_ret
    exact ⟨rfl, kB2⟩


def sixR (s : ByteArray) : Nat → Nat → (Nat → Int) → Nat → Int → BitVec 128 × Bool
  | 0, _, _, _, _ => (0#128, false)
  | n + 1, a, f, c, p =>
    if s.size ≤ a then (finV f c p, finB c p)
    else if byteAt s (a + (grpN (s.extract a s.size)).toNat) = 46 then (if fourB (s.extract a s.size) = true ∧ c ≤ 6 then (finV (upd (upd f c (quadA (s.extract a s.size))) (c + 1) (quadB (s.extract a s.size))) (c + 2) p, finB (c + 2) p) else (0#128, false))
    else if grpN (s.extract a s.size) = 0 ∨ c = 8 then (0#128, false)
    else if a + (grpN (s.extract a s.size)).toNat = s.size then (finV (upd f c (grpV (s.extract a s.size))) (c + 1) p, finB (c + 1) p)
    else if p = -1 ∧ byteAt s (a + (grpN (s.extract a s.size)).toNat) = 58 ∧ byteAt s (a + (grpN (s.extract a s.size)).toNat + 1) = 58 then sixR s n (a + (grpN (s.extract a s.size)).toNat + 2) (upd f c (grpV (s.extract a s.size))) (c + 1) ((c : Int) + 1)
    else if 1 < s.size - (a + (grpN (s.extract a s.size)).toNat) ∧ byteAt s (a + (grpN (s.extract a s.size)).toNat) = 58 then sixR s n (a + (grpN (s.extract a s.size)).toNat + 1) (upd f c (grpV (s.extract a s.size))) (c + 1) p
    else (0#128, false)
theorem sixR_succ (s : ByteArray) (n a : Nat) (f : Nat → Int) (c : Nat) (p : Int) : sixR s (n + 1) a f c p =
    if s.size ≤ a then (finV f c p, finB c p)
    else if byteAt s (a + (grpN (s.extract a s.size)).toNat) = 46 then (if fourB (s.extract a s.size) = true ∧ c ≤ 6 then (finV (upd (upd f c (quadA (s.extract a s.size))) (c + 1) (quadB (s.extract a s.size))) (c + 2) p, finB (c + 2) p) else (0#128, false))
    else if grpN (s.extract a s.size) = 0 ∨ c = 8 then (0#128, false)
    else if a + (grpN (s.extract a s.size)).toNat = s.size then (finV (upd f c (grpV (s.extract a s.size))) (c + 1) p, finB (c + 1) p)
    else if p = -1 ∧ byteAt s (a + (grpN (s.extract a s.size)).toNat) = 58 ∧ byteAt s (a + (grpN (s.extract a s.size)).toNat + 1) = 58 then sixR s n (a + (grpN (s.extract a s.size)).toNat + 2) (upd f c (grpV (s.extract a s.size))) (c + 1) ((c : Int) + 1)
    else if 1 < s.size - (a + (grpN (s.extract a s.size)).toNat) ∧ byteAt s (a + (grpN (s.extract a s.size)).toNat) = 58 then sixR s n (a + (grpN (s.extract a s.size)).toNat + 1) (upd f c (grpV (s.extract a s.size))) (c + 1) p
    else (0#128, false) := rfl
def six0 (s : ByteArray) : BitVec 128 × Bool := if byteAt s 0 = 58 ∧ byteAt s 1 = 58 then sixR s (s.size + 1) 2 (fun _ => 0) 0 0 else sixR s (s.size + 1) 0 (fun _ => 0) 0 (-1)

theorem grpR_bd (t : ByteArray) : ∀ f k v, k + f = 4 → k ≤ t.size → 0 ≤ v → v < 16 ^ k → 0 ≤ (grpR t f k v).1 ∧ (grpR t f k v).1 ≤ 65535 ∧ 0 ≤ (grpR t f k v).2 ∧ (grpR t f k v).2 ≤ t.size ∧ (grpR t f k v).2 ≤ 4 := by
  intro f
  induction f with
  | zero =>
    intro k v hk ht h0 h1
    have : k = 4 := by omega
    subst this
    refine ⟨h0, ?_, ?_, ?_, ?_⟩
    · show v ≤ 65535
      have : (16 : Int) ^ 4 = 65536 := by decide
      omega
    · show (0 : Int) ≤ ((4 : Nat) : Int); omega
    · show ((4 : Nat) : Int) ≤ _; omega
    · show ((4 : Nat) : Int) ≤ _; omega
  | succ f ih =>
    intro k v hk ht h0 h1
    have hd := hexV_bd (byteAt t k)
    have hpw : (16 : Int) ^ k ≤ 65536 := by
      rcases (by omega : k = 0 ∨ k = 1 ∨ k = 2 ∨ k = 3) with rfl | rfl | rfl | rfl <;> decide
    by_cases hc : k < t.size ∧ hexB (byteAt t k) = true
    · have e : grpR t (f + 1) k v = grpR t f (k + 1) (16 * v + hexV (byteAt t k)) := if_pos hc
      rw [e]
      exact ih (k + 1) _ (by omega) (by omega) (by omega) (by rw [Int.pow_succ]; omega)
    · have e : grpR t (f + 1) k v = (v, (k : Int)) := if_neg hc
      rw [e]
      refine ⟨h0, ?_, ?_, ?_, ?_⟩
      · show v ≤ 65535; omega
      · show (0 : Int) ≤ (k : Int); omega
      · show (k : Int) ≤ _; omega
      · show (k : Int) ≤ 4; omega
theorem grp_bd (t : ByteArray) : 0 ≤ grpV t ∧ grpV t ≤ 65535 ∧ 0 ≤ grpN t ∧ grpN t ≤ t.size := by
  have := grpR_bd t 4 0 0 (by omega) (by omega) (by omega) (by decide)
  unfold grpV grpN; omega

end Go.Proofs.YtmeaikmmhgmgnaaGreat
