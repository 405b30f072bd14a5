/-
  The law AddrFour, walked.
-/
import Derived.Test.YtldjeabdoooihabLawFourB
namespace Go.Proofs.Ytldjeabdoooihab
open Go.RowKit
set_option linter.unusedSimpArgs false
set_option linter.unusedVariables false

/-- The text of four numbers, as the law writes it. -/
def dotA (x y z u : ByteArray) : ByteArray := x ++ ⟨#[46]⟩ ++ y ++ ⟨#[46]⟩ ++ z ++ ⟨#[46]⟩ ++ u
theorem dotA_list (a b c d : Nat) : (dotA ⟨(decL a).toArray⟩ ⟨(decL b).toArray⟩ ⟨(decL c).toArray⟩ ⟨(decL d).toArray⟩).data.toList = decL a ++ 46 :: (decL b ++ 46 :: (decL c ++ 46 :: decL d)) := by
  unfold dotA
  simp
theorem mod300 (a : Int) : ∃ n : Nat, n < 300 ∧ a % 300 = (n : Int) := by
  have h0 := Int.emod_nonneg a (b := 300) (by omega)
  have h1 := Int.emod_lt_of_pos a (b := 300) (by omega)
  exact ⟨(a % 300).toNat, by omega, by omega⟩
theorem decS_bd (n : Nat) (h : n < 300) : (⟨(decL n).toArray⟩ : ByteArray).size ≤ 3 := by
  have := (decL_len n h).2
  exact this
theorem decL_head (n : Nat) (h : n < 300) (r : List UInt8) : ∃ c r', decL n ++ r = c :: r' ∧ ¬ c = 46 := by
  have key : ∀ n, n < 300 → (decL n).head? ≠ none ∧ (decL n).head? ≠ some 46 := by decide +kernel
  have k := key n h
  cases hd : decL n with
  | nil => rw [hd] at k; simp at k
  | cons c l => rw [hd] at k; exact ⟨c, l ++ r, rfl, fun e => by rw [e] at k; simp at k⟩


theorem wrapK (v : Int) (k : Nat) (h0 : 0 ≤ v) (h1 : v ≤ 255) (hk : k ≤ 56) : IntKind.u64.wrap (v * 2 ^ k) = v * 2 ^ k := by
  have hp : (2 : Int) ^ k ≤ 2 ^ 56 := by
    have : (2 : Nat) ^ k ≤ 2 ^ 56 := Nat.pow_le_pow_right (by omega) hk
    exact_mod_cast this
  have hp0 : (0 : Int) < 2 ^ k := Int.pow_pos (by omega)
  have a : 0 ≤ v * 2 ^ k := Int.mul_nonneg h0 (by omega)
  have b : v * 2 ^ k ≤ 255 * 2 ^ 56 := Int.mul_le_mul h1 hp (by omega) (by omega)
  simp [IntKind.wrap, IntKind.bits, IntKind.signed]
  omega
theorem quad_h (A B C D : Nat) (ga : A ≤ 255) (gb : B ≤ 255) (gc : C ≤ 255) (gd : D ≤ 255) : hI (quadW A B C D) = bits .or .u64 (bits .or .u64 (bits .or .u64 ((A : Int) * 72057594037927936) ((B : Int) * 281474976710656)) ((C : Int) * 1099511627776)) ((D : Int) * 4294967296) := by
  unfold quadW
  rw [← lay_h _ 3 D (by omega) (by omega) (by omega) (by omega), ← lay_h _ 2 C (by omega) (by omega) (by omega) (by omega), ← lay_h _ 1 B (by omega) (by omega) (by omega) (by omega)]
  have e0 : hI (layW 0#128 0 8 A) = (A : Int) * 72057594037927936 := by
    have : layW 0#128 0 8 A = mkW 0 A <<< (128 - 8 * ((0 : Int) + 1)).toNat := by unfold layW; rw [BitVec.zero_or]
    rw [this, ← shl_h2 (mkW 0 A) (128 - 8 * ((0 : Int) + 1)).toNat (by decide) (by decide), lI_mk 0 A (by omega) (by omega), show (128 - 8 * ((0 : Int) + 1)).toNat - 64 = 56 by decide, wrapK A 56 (by omega) (by omega) (by omega)]
    rfl
  rw [e0, wrapK D _ (by omega) (by omega) (by decide), wrapK C _ (by omega) (by omega) (by decide), wrapK B _ (by omega) (by omega) (by decide)]
  rfl
theorem quad_l (a b c d : Int) : lI (quadW a b c d) = 0 := by
  unfold quadW
  exact lay_l _ 3 d (by omega) (by omega) (lay_l _ 2 c (by omega) (by omega) (lay_l _ 1 b (by omega) (by omega) (lay_l _ 0 a (by omega) (by omega) lI_zero)))

set_option maxHeartbeats 4000000 in
theorem four_good (A B C D : Nat) (a b c d : Int) (SA SB SC SD : ByteArray) (w : World)
    (Wa : ∀ w, Calls Try.prog 6 #[.int .i64 a, .int .i64 300] w fun e w' => e = .returned (.int .i64 (A : Int)) ∧ w' = w)
    (Wb : ∀ w, Calls Try.prog 6 #[.int .i64 b, .int .i64 300] w fun e w' => e = .returned (.int .i64 (B : Int)) ∧ w' = w)
    (Wc : ∀ w, Calls Try.prog 6 #[.int .i64 c, .int .i64 300] w fun e w' => e = .returned (.int .i64 (C : Int)) ∧ w' = w)
    (Wd : ∀ w, Calls Try.prog 6 #[.int .i64 d, .int .i64 300] w fun e w' => e = .returned (.int .i64 (D : Int)) ∧ w' = w)
    (Da : ∀ w, Calls Try.prog 7 #[.int .i64 (A : Int)] w fun e w' => e = .returned (.string SA) ∧ Below w.heap.size w w')
    (Db : ∀ w, Calls Try.prog 7 #[.int .i64 (B : Int)] w fun e w' => e = .returned (.string SB) ∧ Below w.heap.size w w')
    (Dc : ∀ w, Calls Try.prog 7 #[.int .i64 (C : Int)] w fun e w' => e = .returned (.string SC) ∧ Below w.heap.size w w')
    (Dd : ∀ w, Calls Try.prog 7 #[.int .i64 (D : Int)] w fun e w' => e = .returned (.string SD) ∧ Below w.heap.size w w')
    (za : SA.size ≤ 3) (zb : SB.size ≤ 3) (zc : SC.size ≤ 3) (zd : SD.size ≤ 3)
    (x : BitVec 128) (KP : ∀ w, Calls Try.prog 8 #[.int .i64 32, .string (SA ++ ⟨#[46]⟩ ++ SB ++ ⟨#[46]⟩ ++ SC ++ ⟨#[46]⟩ ++ SD)] w fun e w' => e = .returned (.tuple #[.agg #[.int .u64 (hI x), .int .u64 (lI x)], .int .i64 0]) ∧ Below w.heap.size w w') (Y1 Y2 : Int) (o1 : bits .or .u64 ((A : Int) * 72057594037927936) ((B : Int) * 281474976710656) = Y1) (o2 : bits .or .u64 Y1 ((C : Int) * 1099511627776) = Y2) (o3 : bits .or .u64 Y2 ((D : Int) * 4294967296) = hI x) (hl : lI x = 0) (ga : A ≤ 255) (gb : B ≤ 255) (gc : C ≤ 255) (gd : D ≤ 255) :
    Calls Try.prog 3 #[.int .i64 a, .int .i64 b, .int .i64 c, .int .i64 d, .bool false] w fun e w' => e = .returned (.bool true) ∧ Below w.heap.size w w' := by
  have qa : ¬ (255 : Int) < A := by omega
  have qb : ¬ (255 : Int) < B := by omega
  have qc : ¬ (255 : Int) < C := by omega
  have qd : ¬ (255 : Int) < D := by omega
  go_enter Try.func3, Try.ntmps3
  go_wp2_with fail
  refine (known2_any _).mono ?_
  rintro e w1 ⟨rfl, hb1⟩
  go_wp2_with fail
  refine (Wa _).mono ?_
  rintro e w2 ⟨rfl, rfl⟩
  go_wp2_with fail
  refine (Wb _).mono ?_
  rintro e w2 ⟨rfl, rfl⟩
  go_wp2_with fail
  refine (Wc _).mono ?_
  rintro e w2 ⟨rfl, rfl⟩
  go_wp2_with fail
  refine (Wd _).mono ?_
  rintro e w2 ⟨rfl, rfl⟩
  clear Wa Wb Wc Wd
  go_wp2_with fail
  refine (Da _).mono ?_
  rintro e w2 ⟨rfl, hb2⟩
  go_wp2_with fail
  refine (Db _).mono ?_
  rintro e w3 ⟨rfl, hb3⟩
  go_wp2_with fail
  refine (Dc _).mono ?_
  rintro e w4 ⟨rfl, hb4⟩
  go_wp2_with fail
  refine (Dd _).mono ?_
  rintro e w5 ⟨rfl, hb5⟩
  clear Da Db Dc Dd
  have kB := keepb hb5 (keepb hb4 (keepb hb3 (keepb hb2 hb1)))
  clear hb1 hb2 hb3 hb4 hb5
  go_wp2_with fail
  refine (KP _).mono ?_
  rintro e w6 ⟨rfl, hb6⟩
  have kB6 := keepb hb6 kB
  clear hb6 kB KP
  go_wp2
  go_ret
  exact ⟨rfl, kB6.alloc kB6.size _⟩

theorem addrFour_any (a b c d : Int) (nt : Bool) (w : World) :
    Calls Try.prog 3 #[.int .i64 a, .int .i64 b, .int .i64 c, .int .i64 d, .bool nt] w fun e w' => e = .returned (.bool true) ∧ Below w.heap.size w w' := by
  obtain ⟨A, hA, ea⟩ := mod300 a
  obtain ⟨B, hB, eb⟩ := mod300 b
  obtain ⟨C, hC, ec⟩ := mod300 c
  obtain ⟨D, hD, ed⟩ := mod300 d
  have Wa := fun w => within_any a 300 w (by omega) (by omega)
  have Wb := fun w => within_any b 300 w (by omega) (by omega)
  have Wc := fun w => within_any c 300 w (by omega) (by omega)
  have Wd := fun w => within_any d 300 w (by omega) (by omega)
  rw [ea] at Wa; rw [eb] at Wb; rw [ec] at Wc; rw [ed] at Wd
  have Da := fun w => decimal_any A w (by omega)
  have Db := fun w => decimal_any B w (by omega)
  have Dc := fun w => decimal_any C w (by omega)
  have Dd := fun w => decimal_any D w (by omega)
  have za := decS_bd A hA
  have zb := decS_bd B hB
  have zc := decS_bd C hC
  have zd := decS_bd D hD
  have hz : (dotA ⟨(decL A).toArray⟩ ⟨(decL B).toArray⟩ ⟨(decL C).toArray⟩ ⟨(decL D).toArray⟩).size ≤ 20 := by
    rw [Lib.size_eq, dotA_list]
    have := decL_len A hA; have := decL_len B hB; have := decL_len C hC; have := decL_len D hD
    simp only [List.length_append, List.length_cons]; omega
  cases nt
  · have hf := four_text _ A B C D hA hB hC hD (dotA_list A B C D)
    have KP := fun w => aparse_any 32 (dotA ⟨(decL A).toArray⟩ ⟨(decL B).toArray⟩ ⟨(decL C).toArray⟩ ⟨(decL D).toArray⟩) w (by unfold maxLen; omega)
    by_cases g : A ≤ 255 ∧ B ≤ 255 ∧ C ≤ 255 ∧ D ≤ 255
    · rw [if_pos g] at hf
      have e1 : apV 32 (dotA ⟨(decL A).toArray⟩ ⟨(decL B).toArray⟩ ⟨(decL C).toArray⟩ ⟨(decL D).toArray⟩) = quadW A B C D := by
        unfold apV fourB fourV; rw [if_pos rfl, hf]; rfl
      have e2 : apE 32 (dotA ⟨(decL A).toArray⟩ ⟨(decL B).toArray⟩ ⟨(decL C).toArray⟩ ⟨(decL D).toArray⟩) = 0 := by
        unfold apE fourB; rw [if_pos rfl, hf]; rfl
      rw [e1, e2] at KP
      exact four_good A B C D a b c d _ _ _ _ w Wa Wb Wc Wd Da Db Dc Dd za zb zc zd (quadW A B C D) KP _ _ rfl rfl (quad_h A B C D g.1 g.2.1 g.2.2.1 g.2.2.2).symm (quad_l _ _ _ _) g.1 g.2.1 g.2.2.1 g.2.2.2
    · rw [if_neg g] at hf
      have e1 : apV 32 (dotA ⟨(decL A).toArray⟩ ⟨(decL B).toArray⟩ ⟨(decL C).toArray⟩ ⟨(decL D).toArray⟩) = 0#128 := by
        unfold apV fourB fourV; rw [if_pos rfl, hf]; rfl
      have e2 : apE 32 (dotA ⟨(decL A).toArray⟩ ⟨(decL B).toArray⟩ ⟨(decL C).toArray⟩ ⟨(decL D).toArray⟩) = 12 := by
        unfold apE fourB; rw [if_pos rfl, hf]; rfl
      rw [e1, e2, hI_zero, lI_zero] at KP
      exact four_badF A B C D a b c d _ _ _ _ w Wa Wb Wc Wd Da Db Dc Dd za zb zc zd KP (by omega)
  · obtain ⟨c0, r, q1, q2⟩ := decL_head A hA (46 :: (decL B ++ 46 :: (decL C ++ 46 :: decL D)))
    have hl : ((⟨#[48]⟩ : ByteArray) ++ dotA ⟨(decL A).toArray⟩ ⟨(decL B).toArray⟩ ⟨(decL C).toArray⟩ ⟨(decL D).toArray⟩).data.toList = 48 :: c0 :: r := by
      rw [← q1, ← dotA_list]; simp
    have hf := four_nought _ c0 r q2 hl
    have KP := fun w => aparse_any 32 ((⟨#[48]⟩ : ByteArray) ++ dotA ⟨(decL A).toArray⟩ ⟨(decL B).toArray⟩ ⟨(decL C).toArray⟩ ⟨(decL D).toArray⟩) w (by
      have : ((⟨#[48]⟩ : ByteArray) ++ dotA ⟨(decL A).toArray⟩ ⟨(decL B).toArray⟩ ⟨(decL C).toArray⟩ ⟨(decL D).toArray⟩).size = 1 + (dotA ⟨(decL A).toArray⟩ ⟨(decL B).toArray⟩ ⟨(decL C).toArray⟩ ⟨(decL D).toArray⟩).size := by
        rw [ByteArray.size_append]; rfl
      unfold maxLen; omega)
    have e1 : apV 32 ((⟨#[48]⟩ : ByteArray) ++ dotA ⟨(decL A).toArray⟩ ⟨(decL B).toArray⟩ ⟨(decL C).toArray⟩ ⟨(decL D).toArray⟩) = 0#128 := by
      unfold apV fourB fourV; rw [if_pos rfl, hf]; rfl
    have e2 : apE 32 ((⟨#[48]⟩ : ByteArray) ++ dotA ⟨(decL A).toArray⟩ ⟨(decL B).toArray⟩ ⟨(decL C).toArray⟩ ⟨(decL D).toArray⟩) = 12 := by
      unfold apE fourB; rw [if_pos rfl, hf]; rfl
    rw [e1, e2, hI_zero, lI_zero] at KP
    exact four_badT A B C D a b c d _ _ _ _ w Wa Wb Wc Wd Da Db Dc Dd za zb zc zd KP
end Go.Proofs.Ytldjeabdoooihab
