/-
  Plain facts: readFour reads what the reference's dotted reads.
-/
import Derived.Test.YtpchhfhdepkbcaaDoorPure1
namespace Go.Proofs.YtpchhfhdepkbcaaDoor
open Go.RowKit
set_option linter.unusedSimpArgs false
set_option linter.unusedVariables false

def layP : Nat → BitVec 128 → List ByteArray → BitVec 128
  | _, x, [] => x
  | i, x, q :: r => layP (i + 1) (layW x i 8 (octV q)) r
theorem fourR_succ (s : ByteArray) (f i a : Nat) (x : BitVec 128) : fourR s (f + 1) i a x =
    if numN (s.extract a s.size) = 0 then (0#128, false)
    else if i = 3 then (layW x i 8 (numV (s.extract a s.size)), decide (a + (numN (s.extract a s.size)).toNat = s.size))
    else if a + (numN (s.extract a s.size)).toNat = s.size ∨ byteAt s (a + (numN (s.extract a s.size)).toNat) ≠ 46 then (0#128, false)
    else fourR s f (i + 1) (a + (numN (s.extract a s.size)).toNat + 1) (layW x i 8 (numV (s.extract a s.size))) := rfl

theorem four_pieces (s : ByteArray) : ∀ m i p x, i + m = 4 → 1 ≤ m → p ≤ s.size →
    ((fourR s m i p x).2 = true ↔ ((spl s 46 (s.size - p) p p).length = m ∧ ∀ q ∈ spl s 46 (s.size - p) p p, 0 ≤ octV q)) ∧ ((fourR s m i p x).2 = true → (fourR s m i p x).1 = layP i x (spl s 46 (s.size - p) p p)) := by
  intro m
  induction m with
  | zero => intro i p x _ h; omega
  | succ m ih =>
    intro i p x him _ hp
    obtain ⟨j, hpj, hj, hno, hw⟩ := spl_next s 46 p hp
    have hend : j = s.size ∨ byteAt s j = 46 := by
      rcases hw with ⟨h, -⟩ | ⟨-, h, -⟩
      · exact Or.inl h
      · exact Or.inr h
    have hnp := num_piece s p j hpj hj hend hno
    rw [fourR_succ]
    by_cases ho : 0 ≤ octV (s.extract p j)
    · obtain ⟨h1, h2, h3⟩ := hnp.1 ho
      rw [h1, h2, if_neg (by omega), Int.toNat_natCast, show p + (j - p) = j by omega]
      rcases hw with ⟨rfl, hs⟩ | ⟨hlt, hc, hs⟩
      · rw [hs]
        by_cases h3 : i = 3
        · subst h3
          have hm : m = 0 := by omega
          subst hm
          rw [if_pos rfl]
          refine ⟨⟨fun _ => ⟨rfl, fun q hq => ?_⟩, fun _ => by simp⟩, fun _ => rfl⟩
          have : q = s.extract p s.size := by simpa using hq
          subst this; exact ho
        · rw [if_neg h3, if_pos (Or.inl rfl)]
          refine ⟨⟨fun q => by simp at q, fun q => ?_⟩, fun q => by simp at q⟩
          have : (1 : Nat) = m + 1 := by simpa using q.1
          omega
      · rw [hs]
        by_cases h3 : i = 3
        · subst h3
          have hm : m = 0 := by omega
          subst hm
          rw [if_pos rfl]
          have hl := (spl_len s 46 (s.size - (j + 1)) (j + 1) (j + 1)).1
          refine ⟨⟨fun q => ?_, fun q => ?_⟩, fun q => ?_⟩
          · simp at q; omega
          · have := q.1
            simp only [List.length_cons] at this; omega
          · simp at q; omega
        · rw [if_neg h3, if_neg (by rw [hc]; simp; omega)]
          have hi := ih (i + 1) (j + 1) (layW x i 8 (octV (s.extract p j))) (by omega) (by omega) (by omega)
          refine ⟨⟨fun q => ?_, fun q => ?_⟩, fun q => ?_⟩
          · obtain ⟨a, b⟩ := hi.1.mp q
            refine ⟨by simp [a], fun u hu => ?_⟩
            rcases List.mem_cons.mp hu with rfl | hu
            · exact ho
            · exact b u hu
          · exact hi.1.mpr ⟨by simpa using q.1, fun u hu => q.2 u (List.mem_cons_of_mem _ hu)⟩
          · rw [hi.2 q]; rfl
    · have hbad : ¬ ((spl s 46 (s.size - p) p p).length = m + 1 ∧ ∀ q ∈ spl s 46 (s.size - p) p p, 0 ≤ octV q) := by
        rintro ⟨-, h⟩
        apply ho
        rcases hw with ⟨rfl, hs⟩ | ⟨_, _, hs⟩
        · exact h _ (by rw [hs]; simp)
        · exact h _ (by rw [hs]; simp)
      have hF : (if numN (s.extract p s.size) = 0 then ((0#128, false) : BitVec 128 × Bool)
          else if i = 3 then (layW x i 8 (numV (s.extract p s.size)), decide (p + (numN (s.extract p s.size)).toNat = s.size))
          else if p + (numN (s.extract p s.size)).toNat = s.size ∨ byteAt s (p + (numN (s.extract p s.size)).toNat) ≠ 46 then (0#128, false)
          else fourR s m (i + 1) (p + (numN (s.extract p s.size)).toNat + 1) (layW x i 8 (numV (s.extract p s.size)))).2 = false := by
        rcases hnp.2 (by omega) with h0 | ⟨z, hz, hzj⟩
        · rw [if_pos h0]
        · rw [hz, Int.toNat_natCast]
          split
          · rfl
          · split
            · simp; omega
            · rw [if_pos (Or.inr (hno (p + z) (by omega) hzj))]
      refine ⟨⟨fun q => ?_, fun q => absurd q hbad⟩, fun q => ?_⟩
      · rw [hF] at q; cases q
      · rw [hF] at q; cases q

theorem dotG_all : ∀ (l : List ByteArray) (v : Int), (∀ q ∈ l, 0 ≤ octV q) → dotG l v = some (l.foldl (fun v q => 256 * v + octV q) v) := by
  intro l
  induction l with
  | nil => intro v _; rfl
  | cons q l ih =>
    intro v h
    have : dotG (q :: l) v = dotG l (256 * v + octV q) := if_neg (by have := h q (by simp); omega)
    rw [this, ih _ (fun u hu => h u (List.mem_cons_of_mem _ hu))]; rfl
theorem dotG_not : ∀ (l : List ByteArray) (v : Int), ¬ (∀ q ∈ l, 0 ≤ octV q) → dotG l v = none := by
  intro l
  induction l with
  | nil => intro v h; exact absurd (fun q hq => by cases hq) h
  | cons q l ih =>
    intro v h
    by_cases hq : octV q < 0
    · exact if_pos hq
    · have : dotG (q :: l) v = dotG l (256 * v + octV q) := if_neg hq
      rw [this]
      apply ih
      intro hl
      apply h
      intro u hu
      rcases List.mem_cons.mp hu with rfl | hu
      · omega
      · exact hl u hu
theorem or_sum (A B : Int) (i : Nat) (h0 : 0 ≤ A) (h1 : 0 ≤ B) (h2 : B < 2 ^ i) (h3 : A * 2 ^ i + B < 18446744073709551616) : bits .or .u64 (A * 2 ^ i) B = A * 2 ^ i + B := by
  obtain ⟨a, rfl⟩ := Int.eq_ofNat_of_zero_le h0
  obtain ⟨b, rfl⟩ := Int.eq_ofNat_of_zero_le h1
  have h2' : b < 2 ^ i := by exact_mod_cast h2
  have h3' : a * 2 ^ i + b < 18446744073709551616 := by
    have : ((a * 2 ^ i + b : Nat) : Int) < 18446744073709551616 := by rw [Int.natCast_add, Int.natCast_mul, Int.natCast_pow]; exact h3
    omega
  have e1 : ((a : Int) * 2 ^ i) = ((BitVec.ofNat 64 (a * 2 ^ i)).toNat : Int) := by
    rw [BitVec.toNat_ofNat, Nat.mod_eq_of_lt (by omega), Int.natCast_mul, Int.natCast_pow]; rfl
  have e2 : (b : Int) = ((BitVec.ofNat 64 b).toNat : Int) := by
    rw [BitVec.toNat_ofNat, Nat.mod_eq_of_lt (by omega)]
  have k := Nat.shiftLeft_add_eq_or_of_lt h2' a
  rw [Nat.shiftLeft_eq] at k
  have e3 : bits .or .u64 ((a : Int) * 2 ^ i) (b : Int) = (((BitVec.ofNat 64 (a * 2 ^ i)) ||| (BitVec.ofNat 64 b)).toNat : Int) := by
    rw [e1, e2]; exact bits64or _ _ _ rfl
  rw [e3, BitVec.toNat_or, BitVec.toNat_ofNat, BitVec.toNat_ofNat, Nat.mod_eq_of_lt (by omega), Nat.mod_eq_of_lt (by omega), ← k, Int.natCast_add, Int.natCast_mul, Int.natCast_pow]
  rfl
theorem lay8_h (x : BitVec 128) (i v : Int) (h0 : 0 ≤ i) (h1 : i ≤ 3) (v0 : 0 ≤ v) (v1 : v ≤ 255) : hI (layW x i 8 v) = bits .or .u64 (hI x) (IntKind.u64.wrap (v * 2 ^ (56 - 8 * i).toNat)) := by
  unfold layW
  rw [← or_h, ← shl_h2 (mkW 0 v) (128 - 8 * (i + 1)).toNat (by omega) (by omega), lI_mk 0 v v0 (by omega), show (128 - 8 * (i + 1)).toNat - 64 = (56 - 8 * i).toNat by omega]
theorem lay8_l (x : BitVec 128) (i v : Int) (h0 : 0 ≤ i) (h1 : i ≤ 3) (hx : lI x = 0) : lI (layW x i 8 v) = 0 := by
  unfold layW
  rw [← or_l, shl_l2 _ _ (by omega), hx]; decide
theorem wrapS (v : Int) (h0 : 0 ≤ v) (h1 : v < 18446744073709551616) : IntKind.u64.wrap v = v := by
  simp [IntKind.wrap, IntKind.bits, IntKind.signed]; omega
theorem lay8_step (x : BitVec 128) (i : Nat) (P v : Int) (hi : i ≤ 3) (p0 : 0 ≤ P) (p1 : P < 256 ^ i) (v0 : 0 ≤ v) (v1 : v ≤ 255) (hx : hI x = P * 2 ^ (64 - 8 * i)) : hI (layW x i 8 v) = (256 * P + v) * 2 ^ (56 - 8 * i) := by
  rw [lay8_h x i v (by omega) (by omega) v0 v1, hx]
  rcases (by omega : i = 0 ∨ i = 1 ∨ i = 2 ∨ i = 3) with rfl | rfl | rfl | rfl
  · have : P = 0 := by simp at p1; omega
    subst this
    rw [show ((56 : Int) - 8 * ((0 : Nat) : Int)).toNat = 56 by decide, wrapS _ (by omega) (by omega)]
    have := or_sum 0 (v * 2 ^ 56) 64 (by omega) (by omega) (by omega) (by omega)
    simp only [Int.zero_mul, Int.zero_add, Int.mul_zero] at this ⊢
    exact this
  · rw [show ((56 : Int) - 8 * ((1 : Nat) : Int)).toNat = 48 by decide, wrapS _ (by omega) (by omega)]
    simp only [show 64 - 8 * 1 = 56 by omega, show 56 - 8 * 1 = 48 by omega]
    have hp : P < 256 := by simpa using p1
    rw [or_sum P (v * 2 ^ 48) 56 (by omega) (by omega) (by omega) (by omega)]; omega
  · rw [show ((56 : Int) - 8 * ((2 : Nat) : Int)).toNat = 40 by decide, wrapS _ (by omega) (by omega)]
    simp only [show 64 - 8 * 2 = 48 by omega, show 56 - 8 * 2 = 40 by omega]
    have hp : P < 65536 := by simpa using p1
    rw [or_sum P (v * 2 ^ 40) 48 (by omega) (by omega) (by omega) (by omega)]; omega
  · rw [show ((56 : Int) - 8 * ((3 : Nat) : Int)).toNat = 32 by decide, wrapS _ (by omega) (by omega)]
    simp only [show 64 - 8 * 3 = 40 by omega, show 56 - 8 * 3 = 32 by omega]
    have hp : P < 16777216 := by simpa using p1
    rw [or_sum P (v * 2 ^ 32) 40 (by omega) (by omega) (by omega) (by omega)]; omega
theorem lay_all (a b c d : ByteArray) (ha : 0 ≤ octV a) (hb : 0 ≤ octV b) (hc : 0 ≤ octV c) (hd : 0 ≤ octV d) :
    layP 0 0#128 [a, b, c, d] = mkW (([a, b, c, d].foldl (fun v q => 256 * v + octV q) 0) * 4294967296) 0 := by
  have Ba := octV_bd a
  have Bb := octV_bd b
  have Bc := octV_bd c
  have Bd := octV_bd d
  show layW (layW (layW (layW 0#128 (0 : Nat) 8 (octV a)) (1 : Nat) 8 (octV b)) (2 : Nat) 8 (octV c)) (3 : Nat) 8 (octV d) = mkW ((256 * (256 * (256 * (256 * 0 + octV a) + octV b) + octV c) + octV d) * 4294967296) 0
  generalize octV a = A at *
  generalize octV b = B at *
  generalize octV c = C at *
  generalize octV d = D at *
  have s1 := lay8_step 0#128 0 0 A (by omega) (by omega) (by decide) ha (by omega) (by rw [hI_zero]; rfl)
  have s2 := lay8_step _ 1 (256 * 0 + A) B (by omega) (by omega) (by simp; omega) hb (by omega) s1
  have s3 := lay8_step _ 2 (256 * (256 * 0 + A) + B) C (by omega) (by omega) (by simp; omega) hc (by omega) s2
  have s4 := lay8_step _ 3 (256 * (256 * (256 * 0 + A) + B) + C) D (by omega) (by omega) (by simp; omega) hd (by omega) s3
  apply eq_ints
  · rw [s4, hI_mk _ _ (by omega) (by omega)]; rfl
  · rw [lI_mk _ _ (by omega) (by omega)]
    exact lay8_l _ 3 _ (by omega) (by omega) (lay8_l _ 2 _ (by omega) (by omega) (lay8_l _ 1 _ (by omega) (by omega) (lay8_l _ 0 _ (by omega) (by omega) lI_zero)))
theorem four_eq (s : ByteArray) : fourB s = (dotO s).isSome ∧ ∀ u, dotO s = some u → fourV s = mkW (u * 4294967296) 0 := by
  have h := four_pieces s 4 0 0 0#128 (by omega) (by omega) (by omega)
  rw [Nat.sub_zero] at h
  unfold fourB fourV dotO
  by_cases hg : (spl s 46 s.size 0 0).length = 4 ∧ ∀ q ∈ spl s 46 s.size 0 0, 0 ≤ octV q
  · have hb := h.1.mpr hg
    rw [if_pos hg.1, dotG_all _ _ hg.2, hb]
    refine ⟨rfl, fun u hu => ?_⟩
    injection hu with hu
    rw [h.2 hb, ← hu]
    match hL : spl s 46 s.size 0 0, hg with
    | [a, b, c, d], hg => exact lay_all a b c d (hg.2 a (by simp)) (hg.2 b (by simp)) (hg.2 c (by simp)) (hg.2 d (by simp))
  · have hb : (fourR s 4 0 0 0#128).2 = false := by
      cases hx : (fourR s 4 0 0 0#128).2 with
      | false => rfl
      | true => exact absurd (h.1.mp hx) hg
    rw [hb]
    by_cases hl : (spl s 46 s.size 0 0).length = 4
    · rw [if_pos hl, dotG_not _ _ (fun q => hg ⟨hl, q⟩)]
      exact ⟨rfl, fun u hu => by cases hu⟩
    · rw [if_neg hl]
      exact ⟨rfl, fun u hu => by cases hu⟩
end Go.Proofs.YtpchhfhdepkbcaaDoor
