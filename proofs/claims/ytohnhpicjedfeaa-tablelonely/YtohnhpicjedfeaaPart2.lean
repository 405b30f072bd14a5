/-
  Part 2 of the proof: 9 texts, one behind the other.
-/
import Derived.Test.YtohnhpicjedfeaaPart1
import Derived.Deep.RegionHeld3
import Derived.BigQuiet
import Derived.WalkMore
import Derived.Deep.LoopGhost
namespace Go.Proofs.Ytohnhpicjedfeaa
open Go.RowKit
set_option linter.unusedSimpArgs false
set_option linter.unusedVariables false

set_option maxHeartbeats 400000 in
theorem rbit_any (x : BitVec 128) (i : Int) (w : World) :
    Calls Try.prog 43 #[.agg #[.int .u64 (hI x), .int .u64 (lI x)], .int .i64 i] w fun e w' => e = .returned (.int .i64 (bitZ x i)) ∧ Below w.heap.size w w' := by
  by_cases h0 : i < 0
  · rw [bitZ_out x i (Or.inl h0)]
    go_enter Try.func43, Try.ntmps43
    go_wp2
    go_ret
    exact ⟨rfl, bl1 _ _⟩
  by_cases h1 : 127 < i
  · rw [bitZ_out x i (Or.inr h1)]
    go_enter Try.func43, Try.ntmps43
    go_wp2
    go_ret
    exact ⟨rfl, bl1 _ _⟩
  by_cases h2 : i < 64
  · rw [← bit_hi x i (by omega) h2]
    go_enter Try.func43, Try.ntmps43
    go_wp2
    go_ret
    exact ⟨rfl, bl1 _ _⟩
  · rw [← bit_lo x i (by omega) (by omega)]
    go_enter Try.func43, Try.ntmps43
    go_wp2
    go_ret
    exact ⟨rfl, bl1 _ _⟩

set_option maxHeartbeats 400000 in
theorem put_any (x : BitVec 128) (i b : Int) (w : World) (hb : b = 0 ∨ b = 1) (h0 : 0 ≤ i) (h1 : i ≤ 127) :
    Calls Try.prog 41 #[.agg #[.int .u64 (hI x), .int .u64 (lI x)], .int .i64 i, .int .i64 b] w fun e w' => e = .returned (.agg #[.int .u64 (hI (putW x i b)), .int .u64 (lI (putW x i b))]) ∧ Below w.heap.size w w' := by
  by_cases h2 : i < 64
  · rcases hb with rfl | rfl
    · rw [put_l0 x i 0 (Or.inl rfl) h0 h2, ← put_h0 x i h0 h2]
      go_enter Try.func41, Try.ntmps41
      go_wp2
      go_region
      all_goals go_wp2
      all_goals exact bodyPost_ret (v := .agg #[.int .u64 (bits .or .u64 (bits .andNot .u64 (hI x) (IntKind.u64.wrap (2 ^ (63 - i).toNat))) 0), .int .u64 (lI x)]) (by simp [results, Try.results41, go_sem]) rfl ⟨rfl, (bl2 _ _ _).drew⟩
    · rw [put_l0 x i 1 (Or.inr rfl) h0 h2, ← put_h1 x i h0 h2]
      go_enter Try.func41, Try.ntmps41
      go_wp2
      go_region
      all_goals go_wp2
      all_goals exact bodyPost_ret (v := .agg #[.int .u64 (bits .or .u64 (bits .andNot .u64 (hI x) (IntKind.u64.wrap (2 ^ (63 - i).toNat))) (IntKind.u64.wrap (2 ^ (63 - i).toNat))), .int .u64 (lI x)]) (by simp [results, Try.results41, go_sem]) rfl ⟨rfl, (bl2 _ _ _).drew⟩
  · rcases hb with rfl | rfl
    · rw [put_hh x i 0 (Or.inl rfl) (by omega) h1, ← put_l00 x i (by omega) h1]
      go_enter Try.func41, Try.ntmps41
      go_wp2
      go_region
      all_goals go_wp2
      all_goals exact bodyPost_ret (v := .agg #[.int .u64 (hI x), .int .u64 (bits .or .u64 (bits .andNot .u64 (lI x) (IntKind.u64.wrap (2 ^ (127 - i).toNat))) 0)]) (by simp [results, Try.results41, go_sem]) rfl ⟨rfl, (bl2 _ _ _).drew⟩
    · rw [put_hh x i 1 (Or.inr rfl) (by omega) h1, ← put_l1 x i (by omega) h1]
      go_enter Try.func41, Try.ntmps41
      go_wp2
      go_region
      all_goals go_wp2
      all_goals exact bodyPost_ret (v := .agg #[.int .u64 (hI x), .int .u64 (bits .or .u64 (bits .andNot .u64 (lI x) (IntKind.u64.wrap (2 ^ (127 - i).toNat))) (IntKind.u64.wrap (2 ^ (127 - i).toNat)))]) (by simp [results, Try.results41, go_sem]) rfl ⟨rfl, (bl2 _ _ _).drew⟩

def At (w : World) (B : Nat) (x : BitVec 128) : Prop := w.cell? ⟨B, 0, none⟩ = some (.int .u64 (hI x)) ∧ w.cell? ⟨B, 1, none⟩ = some (.int .u64 (lI x)) ∧ w.frozen? ⟨B, 0, none⟩ = false ∧ w.frozen? ⟨B, 1, none⟩ = false ∧ B < w.heap.size
theorem At.below {w w' : World} {B : Nat} {x : BitVec 128} (h : At w B x) (hb : Below w.heap.size w w') : At w' B x := by
  obtain ⟨h0, h1, h2, h3, h4⟩ := h
  obtain ⟨hc, hf⟩ := bcell hb
  exact ⟨by rw [hc _ _ h4]; exact h0, by rw [hc _ _ h4]; exact h1, by rw [hf _ _ h4]; exact h2, by rw [hf _ _ h4]; exact h3, Nat.lt_of_lt_of_le h4 hb.size⟩
theorem At.set {w : World} {B : Nat} {x : BitVec 128} (y : BitVec 128) (h : At w B x) : At ((w.setCell ⟨B, 0, none⟩ (.int .u64 (hI y))).setCell ⟨B, 1, none⟩ (.int .u64 (lI y))) B y := by
  obtain ⟨h0, h1, h2, h3, h4⟩ := h
  refine ⟨?_, ?_, ?_, ?_, ?_⟩ <;> simp [go_sem, *]

theorem At.other {w : World} {B C : Nat} {x : BitVec 128} (u v : Value) (h : At w B x) (hn : B ≠ C) : At ((w.setCell ⟨C, 0, none⟩ u).setCell ⟨C, 1, none⟩ v) B x := by
  obtain ⟨h0, h1, h2, h3, h4⟩ := h
  have hn' : ¬ C = B := fun e => hn e.symm
  refine ⟨?_, ?_, ?_, ?_, ?_⟩ <;> simp [go_sem, *]
theorem maskW_end (n : Int) (k : Nat) (hk : k ≤ 128) (hkn : k = 0 ∨ (k : Int) ≤ n) (hc : ¬ ((k : Int) < n ∧ k < 128)) : maskW (k : Int) = maskW n := by
  by_cases h : n ≤ 0
  · have : k = 0 := by omega
    subst this
    rw [maskW_neg n h]; exact maskW_0
  · by_cases g : (k : Int) = n
    · rw [g]
    · have : k = 128 := by omega
      subst this
      rw [maskW_all n (by omega)]; rfl

set_option maxHeartbeats 400000 in
theorem rmask_any (n : Int) (w : World) :
    Calls Try.prog 29 #[.int .i64 n] w fun e w' => e = .returned (.agg #[.int .u64 (hI (maskW n)), .int .u64 (lI (maskW n))]) ∧ Below w.heap.size w w' := by
  go_enter Try.func29, Try.ntmps29
  go_wp2
  go_loopw [4] (fun i wr => ∃ k : Nat, k ≤ 128 ∧ (k = 0 ∨ (k : Int) ≤ n) ∧ i = .int .i64 k ∧ At wr (w.heap.size + 1) (maskW k) ∧ At wr w.heap.size 0#128 ∧ Below w.heap.size w wr)
    (fun i _ => 128 - (intOf i).toNat)
  case atStart =>
    refine ⟨0, by omega, Or.inl rfl, rfl, ?_, ?_, bl2 _ _ _⟩
    · show At _ _ (maskW 0)
      rw [maskW_0]; refine ⟨?_, ?_, ?_, ?_, ?_⟩ <;> simp [go_sem, hI_zero, lI_zero]
    · refine ⟨?_, ?_, ?_, ?_, ?_⟩ <;> simp [go_sem, hI_zero, lI_zero]
  case round =>
    obtain ⟨k, hk, hkn, rfl, hA, hR, hB⟩ := hrel
    by_cases hc : (k : Int) < n ∧ k < 128
    · obtain ⟨h1, h2⟩ := hc
      have h3 : (k : Int) < 128 := by omega
      obtain ⟨a0, a1, a2, a3, a4⟩ := id hA
      clear hkn
      go_wp2_with fail
      refine (put_any _ _ _ _ (Or.inr rfl) (by omega) (by omega)).mono ?_
      rintro e w1 ⟨rfl, hb1⟩
      have hA1 := hA.below hb1
      have hR1 := hR.below hb1
      obtain ⟨b0, b1, b2, b3, b4⟩ := id hA1
      go_wp2
      go_roundw
      case rel =>
        refine ⟨k + 1, by omega, Or.inr (by omega), by go_num, ?_, ?_, ?_⟩
        · rw [← maskW_succ k h2]; exact hA1.set _
        · exact hR1.other _ _ (by omega)
        · exact ((hB.trans (hb1.mono hB.size)).setCell (by simp) _).setCell (by simp) _
      case measure => simp [intOf]; omega
    · have he := maskW_end n k hk hkn hc
      obtain ⟨a0, a1, a2, a3, a4⟩ := id hA
      obtain ⟨r0, r1, r2, r3, r4⟩ := id hR
      have HE : Hid (maskW (k : Int) = maskW n) := he
      clear he
      by_cases h1 : (k : Int) < n
      · have h2 : ¬ (k : Int) < 128 := by omega
        clear hkn hc
        go_wp2
        exact bodyPost_ret (v := .agg #[.int .u64 (hI (maskW k)), .int .u64 (lI (maskW k))]) (by simp [results, Try.results29, go_sem, *]) rfl ⟨by rw [HE.out], (hB.setCell (by simp) _).setCell (by simp) _⟩
      · clear hkn hc
        go_wp2
        exact bodyPost_ret (v := .agg #[.int .u64 (hI (maskW k)), .int .u64 (lI (maskW k))]) (by simp [results, Try.results29, go_sem, *]) rfl ⟨by rw [HE.out], (hB.setCell (by simp) _).setCell (by simp) _⟩

set_option maxHeartbeats 400000 in
theorem rcmp_any (x y : BitVec 128) (w : World) :
    Calls Try.prog 54 #[.agg #[.int .u64 (hI x), .int .u64 (lI x)], .agg #[.int .u64 (hI y), .int .u64 (lI y)]] w fun e w' => e = .returned (.int .i64 (cmpZ x y)) ∧ Below w.heap.size w w' := by
  rcases cmp_ways x y with ⟨h, c⟩ | ⟨h, g, c⟩ | ⟨h, c⟩ | ⟨h, c⟩ | ⟨h, g, c⟩
  · rw [c]; clear c
    go_enter Try.func54, Try.ntmps54
    go_wp2
    go_ret
    exact ⟨rfl, bl2 _ _ _⟩
  · rw [c, h]; clear c h
    go_enter Try.func54, Try.ntmps54
    go_wp2
    go_ret
    exact ⟨rfl, bl2 _ _ _⟩
  · rw [c]; clear c; subst h
    go_enter Try.func54, Try.ntmps54
    go_wp2
    go_ret
    exact ⟨rfl, bl2 _ _ _⟩
  · rw [c]; clear c
    have ne : ¬ hI x = hI y := by omega
    go_enter Try.func54, Try.ntmps54
    go_wp2
    go_ret
    exact ⟨rfl, bl2 _ _ _⟩
  · rw [c, h]; clear c h
    have ne : ¬ lI x = lI y := by omega
    go_enter Try.func54, Try.ntmps54
    go_wp2
    go_ret
    exact ⟨rfl, bl2 _ _ _⟩
end Go.Proofs.Ytohnhpicjedfeaa
namespace Go.Proofs.Ytohnhpicjedfeaa
open Go.RowKit
set_option linter.unusedSimpArgs false
set_option linter.unusedVariables false

def byteAt (s : ByteArray) (k : Nat) : Int := if h : k < s.size then (s[k].toNat : Int) else 0
theorem byteAt_in (s : ByteArray) (k : Nat) (h : k < s.size) : (s[k].toNat : Int) = byteAt s k := by unfold byteAt; rw [dif_pos h]
theorem byteAt_bd (s : ByteArray) (k : Nat) : 0 ≤ byteAt s k ∧ byteAt s k ≤ 255 := by
  unfold byteAt; split
  · rename_i h; have := s[k].toNat_lt; omega
  · omega
end Go.Proofs.Ytohnhpicjedfeaa
namespace Go.Proofs.Ytohnhpicjedfeaa
open Go.RowKit
set_option linter.unusedSimpArgs false
set_option linter.unusedVariables false

def numR (t : ByteArray) : Nat → Nat → Int → Int × Int
  | 0, k, n => (n, k)
  | f + 1, k, n => if 48 ≤ byteAt t k ∧ byteAt t k ≤ 57 then (if 255 < 10 * n + (byteAt t k - 48) then (0, 0) else if 10 * n + (byteAt t k - 48) = 0 then (0, (k : Int) + 1) else numR t f (k + 1) (10 * n + (byteAt t k - 48))) else (n, k)
def numV (t : ByteArray) : Int := (numR t t.size 0 0).1
def numN (t : ByteArray) : Int := (numR t t.size 0 0).2

set_option maxHeartbeats 1000000 in
theorem number_any (t : ByteArray) (w : World) (hs : t.size ≤ maxLen) :
    Calls Try.prog 91 #[.string t] w fun e w' => e = .returned (.tuple #[.int .u64 (numV t), .int .i64 (numN t)]) ∧ w' = w := by
  unfold maxLen at hs
  go_enter Try.func91, Try.ntmps91
  go_wp2
  go_loopw [2, 3] (fun a b wr => ∃ (k : Nat) (n : Int), a = .int .u64 n ∧ b = .int .i64 k ∧ k ≤ t.size ∧ 0 ≤ n ∧ n ≤ 255 ∧ Hid (numR t (t.size - k) k n = numR t t.size 0 0) ∧ wr = w) (fun _ b _ => t.size - (intOf b).toNat)
  case atStart => exact ⟨0, 0, rfl, rfl, by omega, by omega, by omega, rfl, rfl⟩
  case round =>
    obtain ⟨k, n, rfl, rfl, hk, h0, h1, HR, rfl⟩ := hrel
    by_cases hlt : k < t.size
    · have hbt := byteAt_in t k hlt
      have bd := byteAt_bd t k
      have HU : Hid (t.size - k = (t.size - (k + 1)) + 1) := by show _ = _; omega
      have HS : Hid (∀ f, numR t (f + 1) k n = if 48 ≤ byteAt t k ∧ byteAt t k ≤ 57 then (if 255 < 10 * n + (byteAt t k - 48) then (0, 0) else if 10 * n + (byteAt t k - 48) = 0 then (0, (k : Int) + 1) else numR t f (k + 1) (10 * n + (byteAt t k - 48))) else (n, k)) := fun _ => rfl
      generalize byteAt t k = c at *
      have hk2 : (k : Int) < (t.size : Int) := by omega
      by_cases hd : 48 ≤ c ∧ c ≤ 57
      · obtain ⟨d0, d1⟩ := id hd
        by_cases hm : 255 < 10 * n + (c - 48)
        · have HF : Hid (numV t = 0 ∧ numN t = 0) := by
            show _ ∧ _
            unfold numV numN; rw [← HR.out, HU.out, HS.out, if_pos hd, if_pos hm]; exact ⟨rfl, rfl⟩
          clear HS HU HR hd
          go_wp2
          go_ret2
          exact ⟨by rw [HF.out.1, HF.out.2]; rfl, rfl⟩
        · by_cases hz : 10 * n + (c - 48) = 0
          · have HF : Hid (numV t = 0 ∧ numN t = (k : Int) + 1) := by
              show _ ∧ _
              unfold numV numN; rw [← HR.out, HU.out, HS.out, if_pos hd, if_neg hm, if_pos hz]; exact ⟨rfl, rfl⟩
            clear HS HU HR hd
            go_wp2
            go_ret2
            exact ⟨by rw [HF.out.1, HF.out.2]; rfl, rfl⟩
          · have HF : Hid (numR t (t.size - (k + 1)) (k + 1) (10 * n + (c - 48)) = numR t t.size 0 0) := by
              show _ = _
              rw [← HR.out, HU.out, HS.out, if_pos hd, if_neg hm, if_neg hz]
            clear HS HU HR hd
            go_wp2
            go_roundw
            case rel => exact ⟨k + 1, 10 * n + (c - 48), rfl, by go_num, by omega, by omega, by omega, HF, trivial⟩
            case measure => simp [intOf]; omega
      · have HF : Hid (numV t = n ∧ numN t = (k : Int)) := by
          show _ ∧ _
          unfold numV numN; rw [← HR.out, HU.out, HS.out, if_neg hd]; exact ⟨rfl, rfl⟩
        clear HS HU HR
        by_cases d0 : 48 ≤ c
        · have d1 : ¬ c ≤ 57 := by omega
          go_wp2
          go_ret2
          exact ⟨by rw [HF.out.1, HF.out.2]; rfl, rfl⟩
        · go_wp2
          go_ret2
          exact ⟨by rw [HF.out.1, HF.out.2]; rfl, rfl⟩
    · have HF : Hid (numV t = n ∧ numN t = (k : Int)) := by
        show _ ∧ _
        have e : t.size - k = 0 := by omega
        unfold numV numN; rw [← HR.out, e]; exact ⟨rfl, rfl⟩
      clear HR
      go_wp2
      go_ret2
      exact ⟨by rw [HF.out.1, HF.out.2]; rfl, rfl⟩

def layW (x : BitVec 128) (i b v : Int) : BitVec 128 := x ||| (mkW 0 v <<< (128 - b * (i + 1)).toNat)
theorem shlK (v n : Int) (w : World) (h0 : 0 ≤ v) (h1 : v < 18446744073709551616) :
    Calls Try.prog 103 #[.agg #[.int .u64 0, .int .u64 v], .int .i64 n] w fun e w' => e = .returned (.agg #[.int .u64 (hI (mkW 0 v <<< n.toNat)), .int .u64 (lI (mkW 0 v <<< n.toNat))]) ∧ Below w.heap.size w w' := by
  have h := shl_any (mkW 0 v) n w
  rw [show hI (mkW 0 v) = 0 from hI_mk 0 v (by omega) (by omega), show lI (mkW 0 v) = v from lI_mk 0 v h0 h1] at h
  exact h

set_option maxHeartbeats 1000000 in
theorem aput_any (x : BitVec 128) (i b v : Int) (w : World) (h0 : 0 ≤ v) (h1 : v < 18446744073709551616) (i0 : 0 ≤ i) (i1 : i ≤ 16) (b0 : 0 ≤ b) (b1 : b ≤ 16) :
    Calls Try.prog 92 #[.agg #[.int .u64 (hI x), .int .u64 (lI x)], .int .i64 i, .int .i64 b, .int .u64 v] w fun e w' => e = .returned (.agg #[.int .u64 (hI (layW x i b v)), .int .u64 (lI (layW x i b v))]) ∧ Below w.heap.size w w' := by
  have KS := fun n w => shlK v n w h0 h1
  have hu1 : IntKind.i64.wrap (i + 1) = i + 1 := by rw [IntKind.wrap_i64]; omega
  have hm0 : 0 ≤ b * (i + 1) := Int.mul_nonneg b0 (by omega)
  have hm1 : b * (i + 1) ≤ 16 * 17 := Int.mul_le_mul b1 (by omega) (by omega) (by omega)
  have hu2 : IntKind.i64.wrap (b * (i + 1)) = b * (i + 1) := by rw [IntKind.wrap_i64]; omega
  have hu3 : IntKind.i64.wrap (128 - b * (i + 1)) = 128 - b * (i + 1) := by rw [IntKind.wrap_i64]; omega
  have hbl := fun o p => (bl2 w o p).drew
  go_enter Try.func92, Try.ntmps92
  go_wp2
  go_region_held3 (fun w' => w'.cell? ⟨w.heap.size, 0, none⟩ = some (.int .u64 (hI x)) ∧ w'.cell? ⟨w.heap.size, 1, none⟩ = some (.int .u64 (lI x)) ∧ w'.cell? ⟨w.heap.size + 1, 0, none⟩ = some (cv w' (w.heap.size + 1) 0) ∧ w'.cell? ⟨w.heap.size + 1, 1, none⟩ = some (cv w' (w.heap.size + 1) 1) ∧ w'.frozen? ⟨w.heap.size + 1, 0, none⟩ = false ∧ w'.frozen? ⟨w.heap.size + 1, 1, none⟩ = false ∧ Below w.heap.size w w')
    (first
      | (obtain ⟨k1, k2, k5, k6, k7, k8, k9⟩ := ‹_ ∧ _›; exact ⟨keepc hb2 k1, keepc hb2 k2, cv_of (keepc hb2 k5), cv_of (keepc hb2 k6), keepf hb2 k5 k7, keepf hb2 k6 k8, keepb hb2 k9⟩)
      | (obtain ⟨k1, k2, k5, k6, k7, k8, k9⟩ := ‹_ ∧ _›; exact ⟨keepc hb1 k1, keepc hb1 k2, cv_of (keepc hb1 k5), cv_of (keepc hb1 k6), keepf hb1 k5 k7, keepf hb1 k6 k8, keepb hb1 k9⟩)
      | (refine ⟨?_, ?_, cv_new ?_, cv_new ?_, ?_, ?_, ?_⟩ <;> first | (simp [go_sem, *]; done) | exact Below.setCell (Below.setCell (by simp [*]) (by simp) _) (by simp) _))
    (first | (go_at_call 103; refine (KS _ _).mono ?_; rintro e w1 ⟨rfl, hb1⟩) | (go_at_call 102; refine (or_any _ _ _).mono ?_; rintro e w2 ⟨rfl, hb2⟩))
  obtain ⟨-, -, -, -, -, -, kB⟩ := ‹_ ∧ _›
  have e0 : w2.cell? ⟨w.heap.size + 1, 0, none⟩ = some (.int .u64 0) := keepc hb2 (keepc hb1 (by simp [go_sem]))
  have e1 : w2.cell? ⟨w.heap.size + 1, 1, none⟩ = some (.int .u64 0) := keepc hb2 (keepc hb1 (by simp [go_sem]))
  go_wp2
  exact bodyPost_ret (v := .agg #[.int .u64 (hI (layW x i b v)), .int .u64 (lI (layW x i b v))]) (by simp [results, Try.results92, go_sem, e0, e1, layW]) rfl ⟨rfl, kB⟩

set_option maxHeartbeats 1000000 in
theorem part_any (x : BitVec 128) (i b : Int) (w : World) (i0 : 0 ≤ i) (i1 : i ≤ 16) (b0 : 0 ≤ b) (b1 : b * i ≤ 128 - b) :
    Calls Try.prog 106 #[.agg #[.int .u64 (hI x), .int .u64 (lI x)], .int .i64 i, .int .i64 b] w fun e w' => e = .returned (.int .u64 (lI ((x <<< (b * i).toNat) >>> (128 - b).toNat))) ∧ Below w.heap.size w w' := by
  have hm0 : 0 ≤ b * i := Int.mul_nonneg b0 i0
  have hu2 : IntKind.i64.wrap (b * i) = b * i := by rw [IntKind.wrap_i64]; omega
  have KF := fun w => field_in x (b * i) b w hm0 (by omega) b0 (by omega)
  go_enter Try.func106, Try.ntmps106
  go_wp2_with fail
  refine (KF _).mono ?_
  rintro e w1 ⟨rfl, hb1⟩
  have kB : Below w.heap.size w w1 := keepb hb1 (bl1 _ _)
  clear hb1 KF
  go_wp2
  go_ret
  exact ⟨rfl, kB.alloc (by have := kB.size; omega) _⟩
end Go.Proofs.Ytohnhpicjedfeaa
namespace Go.Proofs.Ytohnhpicjedfeaa
open Go.RowKit
set_option linter.unusedSimpArgs false
set_option linter.unusedVariables false

theorem numR_bd (t : ByteArray) : ∀ f k n, 0 ≤ n → n ≤ 255 → 0 ≤ (numR t f k n).1 ∧ (numR t f k n).1 ≤ 255 ∧ 0 ≤ (numR t f k n).2 ∧ (numR t f k n).2 ≤ (k : Int) + f := by
  intro f
  induction f with
  | zero => intro k n h0 h1; exact ⟨h0, h1, by show (0 : Int) ≤ (k : Int); omega, by show (k : Int) ≤ _; omega⟩
  | succ f ih =>
    intro k n h0 h1
    show 0 ≤ (if _ then _ else _ : Int × Int).1 ∧ (if _ then _ else _ : Int × Int).1 ≤ 255 ∧ 0 ≤ (if _ then _ else _ : Int × Int).2 ∧ (if _ then _ else _ : Int × Int).2 ≤ _
    split
    · split
      · simp; omega
      · split
        · simp; omega
        · have := ih (k + 1) (10 * n + (byteAt t k - 48)) (by omega) (by omega)
          omega
    · simp; omega
theorem num_bd (t : ByteArray) : 0 ≤ numV t ∧ numV t ≤ 255 ∧ 0 ≤ numN t ∧ numN t ≤ t.size := by
  have := numR_bd t t.size 0 0 (by omega) (by omega)
  unfold numV numN; omega

def fourR (s : ByteArray) : Nat → Nat → Nat → BitVec 128 → BitVec 128 × Bool
  | 0, _, _, _ => (0#128, false)
  | f + 1, i, a, x =>
    if numN (s.extract a s.size) = 0 then (0#128, false)
    else if i = 3 then (layW x i 8 (numV (s.extract a s.size)), decide (a + (numN (s.extract a s.size)).toNat = s.size))
    else if a + (numN (s.extract a s.size)).toNat = s.size ∨ byteAt s (a + (numN (s.extract a s.size)).toNat) ≠ 46 then (0#128, false)
    else fourR s f (i + 1) (a + (numN (s.extract a s.size)).toNat + 1) (layW x i 8 (numV (s.extract a s.size)))
def fourV (s : ByteArray) : BitVec 128 := (fourR s 4 0 0 0#128).1
def fourB (s : ByteArray) : Bool := (fourR s 4 0 0 0#128).2

theorem at_new (w : World) (B : Nat) (x : BitVec 128) (T : TypeId) (h : B = w.heap.size) : At (w.alloc (.cells #[.int .u64 (hI x), .int .u64 (lI x)] T)) B x := by
  subst h
  refine ⟨?_, ?_, ?_, ?_, ?_⟩ <;> simp [go_sem]

theorem bset2 {n C : Nat} {w W : World} (h : Below n w W) (hp : n ≤ C) (u v : Value) : Below n w ((W.setCell ⟨C, 0, none⟩ u).setCell ⟨C, 1, none⟩ v) := (h.setCell hp _).setCell hp _

set_option maxHeartbeats 4000000 in
theorem readFour_any (s : ByteArray) (w : World) (hs : s.size ≤ maxLen) :
    Calls Try.prog 85 #[.string s] w fun e w' => e = .returned (.tuple #[.agg #[.int .u64 (hI (fourV s)), .int .u64 (lI (fourV s))], .bool (fourB s)]) ∧ Below w.heap.size w w' := by
  have KN := fun a w => number_any (s.extract a s.size) w (by simp; omega)
  unfold maxLen at hs
  go_enter Try.func85, Try.ntmps85
  go_wp2
  go_step3
  go_wp2
  go_step3
  go_wp2
  go_loopw [5, 9] (fun p q wr => ∃ (i a : Nat) (x : BitVec 128), p = .int .i64 a ∧ q = .int .i64 i ∧ i ≤ 3 ∧ a ≤ s.size ∧ Hid (fourR s (4 - i) i a x = fourR s 4 0 0 0#128) ∧ At wr (w.heap.size + 1) x ∧ At wr w.heap.size 0#128 ∧ Below w.heap.size w wr) (fun _ q _ => 4 - (intOf q).toNat)
  case atStart =>
    refine ⟨0, 0, 0#128, rfl, rfl, by omega, by omega, rfl, ?_, ?_, bl2 _ _ _⟩
    · refine ⟨?_, ?_, ?_, ?_, ?_⟩ <;> simp [go_sem, hI_zero, lI_zero]
    · refine ⟨?_, ?_, ?_, ?_, ?_⟩ <;> simp [go_sem, hI_zero, lI_zero]
  case round =>
    obtain ⟨i, a, x, rfl, rfl, hi, ha, HR, hA, hZ, hB⟩ := hrel
    have bd := num_bd (s.extract a s.size)
    have ez : (s.extract a s.size).size = s.size - a := by simp
    rw [ez] at bd
    have HU : Hid (4 - i = (4 - (i + 1)) + 1) := by show _ = _; omega
    have HS : Hid (∀ f, fourR s (f + 1) i a x = if numN (s.extract a s.size) = 0 then (0#128, false) else if i = 3 then (layW x i 8 (numV (s.extract a s.size)), decide (a + (numN (s.extract a s.size)).toNat = s.size))
      else if a + (numN (s.extract a s.size)).toNat = s.size ∨ byteAt s (a + (numN (s.extract a s.size)).toNat) ≠ 46 then (0#128, false)
      else fourR s f (i + 1) (a + (numN (s.extract a s.size)).toNat + 1) (layW x i 8 (numV (s.extract a s.size)))) := fun _ => rfl
    have KA := KN a
    clear KN ez
    generalize numV (s.extract a s.size) = v at *
    generalize numN (s.extract a s.size) = z at *
    obtain ⟨v0, v1, z0, z1⟩ := bd
    obtain ⟨z, rfl⟩ := Int.eq_ofNat_of_zero_le z0
    simp only [Int.toNat_natCast] at HS
    have hi4 : (i : Int) < 4 := by omega
    have hlo : (a : Int) ≤ s.size := by omega
    obtain ⟨a0, a1, a2, a3, a4⟩ := id hA
    go_wp2_with fail
    refine (KA _).mono ?_
    rintro e w1 ⟨rfl, rfl⟩
    clear KA
    go_wp2_with fail
    refine (aput_any x i 8 v _ v0 (by omega) (by omega) (by omega) (by omega) (by omega)).mono ?_
    rintro e w2 ⟨rfl, hb2⟩
    have hA2 := (hA.below hb2).set (layW x i 8 v)
    have hZ2 := (hZ.below hb2).other (.int .u64 (hI (layW x i 8 v))) (.int .u64 (lI (layW x i 8 v))) (C := w.heap.size + 1) (by omega)
    have hB2 := bset2 (keepb hb2 hB) (C := w.heap.size + 1) (by omega) (.int .u64 (hI (layW x i 8 v))) (.int .u64 (lI (layW x i 8 v)))
    obtain ⟨b0, b1, b2, b3, b4⟩ := hA.below hb2
    obtain ⟨y0, y1, y2, y3, y4⟩ := hZ.below hb2
    clear hA hZ hB hb2 a0 a1 a2 a3 a4
    generalize layW x i 8 v = x' at *
    have hsum : IntKind.i64.wrap ((a : Int) + z) = ((a + z : Nat) : Int) := by rw [IntKind.wrap_i64]; omega
    by_cases hz : z = 0
    · have HF : Hid (fourV s = 0#128 ∧ fourB s = false) := by
        show _ ∧ _
        unfold fourV fourB; rw [← HR.out, HU.out, HS.out, if_pos (by omega)]; exact ⟨rfl, rfl⟩
      clear HR HU HS
      subst hz
      go_wp2
      rw [Exit.noGoto_ret]
      exact bodyPost_ret (v := .tuple #[.agg #[.int .u64 0, .int .u64 0], .bool false]) (by simp [results, Try.results85, go_sem, *]) rfl ⟨by rw [HF.out.1, HF.out.2, hI_zero, lI_zero], bset2 hB2 (Nat.le_refl _) _ _⟩
    have hz' : ¬ (z : Int) = 0 := by omega
    by_cases h3 : i = 3
    · have HF : Hid (fourV s = x' ∧ fourB s = decide (a + z = s.size)) := by
        show _ ∧ _
        unfold fourV fourB; rw [← HR.out, HU.out, HS.out, if_neg hz', if_pos h3]; exact ⟨rfl, rfl⟩
      clear HR HU HS
      subst h3
      have hd : (((a : Int) + z) == (s.size : Int)) = decide (a + z = s.size) := by rw [Bool.eq_iff_iff]; simp; omega
      go_wp2
      rw [Exit.noGoto_ret]
      exact bodyPost_ret (v := .tuple #[.agg #[.int .u64 (hI x'), .int .u64 (lI x')], .bool (decide (a + z = s.size))]) (by simp [results, Try.results85, go_sem, *]) rfl ⟨by rw [HF.out.1, HF.out.2], bset2 hB2 (Nat.le_refl _) _ _⟩
    have h3' : ¬ (i : Int) = 3 := by omega
    by_cases he : a + z = s.size
    · have HF : Hid (fourV s = 0#128 ∧ fourB s = false) := by
        show _ ∧ _
        unfold fourV fourB; rw [← HR.out, HU.out, HS.out, if_neg hz', if_neg h3, if_pos (Or.inl he)]; exact ⟨rfl, rfl⟩
      clear HR HU HS
      have hq : (a : Int) + z = (s.size : Int) := by omega
      go_wp2
      rw [Exit.noGoto_ret]
      exact bodyPost_ret (v := .tuple #[.agg #[.int .u64 0, .int .u64 0], .bool false]) (by simp [results, Try.results85, go_sem, *]) rfl ⟨by rw [HF.out.1, HF.out.2, hI_zero, lI_zero], bset2 hB2 (Nat.le_refl _) _ _⟩
    obtain ⟨m, HM⟩ : ∃ m, Hid (a + z = m) := ⟨_, rfl⟩
    simp only [HM.out] at HS he
    have hms : m < s.size := by have := HM.out; omega
    have hbt := byteAt_in s m hms
    have hm : (a : Int) + (z : Int) = (m : Int) := by have := HM.out; omega
    clear z1 hsum HM
    have hme : ¬ (m : Int) = (s.size : Int) := by omega
    have hsum : IntKind.i64.wrap (m : Int) = (m : Int) := by rw [IntKind.wrap_i64]; omega
    have hsu1 : IntKind.i64.wrap ((m : Int) + 1) = (m : Int) + 1 := by rw [IntKind.wrap_i64]; omega
    by_cases hc : byteAt s m = 46
    · have HF : Hid (fourR s (4 - (i + 1)) (i + 1) (m + 1) x' = fourR s 4 0 0 0#128) := by
        show _ = _
        rw [← HR.out, HU.out, HS.out, if_neg hz', if_neg h3, if_neg (by simp [he, hc])]
      clear HR HU HS
      rw [hc] at hbt
      clear hc
      go_wp2
      go_roundw
      case rel => exact ⟨i + 1, m + 1, x', by go_num, by go_num, by omega, by omega, HF, hA2, hZ2, hB2⟩
      case measure => simp [intOf]; omega
    · have HF : Hid (fourV s = 0#128 ∧ fourB s = false) := by
        show _ ∧ _
        unfold fourV fourB; rw [← HR.out, HU.out, HS.out, if_neg hz', if_neg h3, if_pos (Or.inr hc)]; exact ⟨rfl, rfl⟩
      clear HR HU HS
      generalize byteAt s m = c at *
      have hcb : (c != 46) = true := by simp [hc]
      go_wp2
      rw [Exit.noGoto_ret]
      exact bodyPost_ret (v := .tuple #[.agg #[.int .u64 0, .int .u64 0], .bool false]) (by simp [results, Try.results85, go_sem, *]) rfl ⟨by rw [HF.out.1, HF.out.2, hI_zero, lI_zero], bset2 hB2 (Nat.le_refl _) _ _⟩
end Go.Proofs.Ytohnhpicjedfeaa
namespace Go.Proofs.Ytohnhpicjedfeaa
open Go.RowKit
set_option linter.unusedSimpArgs false
set_option linter.unusedVariables false

def fam (F : Int) : Bool := decide (F = 32) || decide (F = 128)
theorem fam_ways (F : Int) (h : fam F = true) : F = 32 ∨ F = 128 := by unfold fam at h; simpa using h
theorem fam_no (F : Int) (h : fam F = false) : ¬ F = 32 ∧ ¬ F = 128 := by unfold fam at h; simpa using h
def lastV (F : Int) : BitVec 128 := if fam F = true then maskW F else 0#128
def lastE (F : Int) : Int := if fam F = true then 0 else 11
end Go.Proofs.Ytohnhpicjedfeaa
namespace Go.Proofs.Ytohnhpicjedfeaa
open Go.RowKit
set_option linter.unusedSimpArgs false
set_option linter.unusedVariables false

set_option maxHeartbeats 1000000 in
theorem alast_any (F : Int) (w : World) :
    Calls Try.prog 33 #[.int .i64 F] w fun e w' => e = .returned (.tuple #[.agg #[.int .u64 (hI (lastV F)), .int .u64 (lI (lastV F))], .int .i64 (lastE F)]) ∧ Below w.heap.size w w' := by
  unfold lastV lastE
  cases h : fam F
  · rw [if_neg (by simp), if_neg (by simp), hI_zero, lI_zero]
    obtain ⟨h1, h2⟩ := fam_no F h
    have b1 : (F != 32) = true := by simp [h1]
    have b2 : (F != 128) = true := by simp [h2]
    clear h
    go_enter Try.func33, Try.ntmps33
    go_wp2
    exact bodyPost_ret (v := .tuple #[.agg #[.int .u64 0, .int .u64 0], .int .i64 11]) (by simp [results, Try.results33, go_sem]) rfl ⟨rfl, bl1 _ _⟩
  · rw [if_pos rfl, if_pos rfl]
    rcases fam_ways F h with rfl | rfl
    all_goals
      clear h
      go_enter Try.func33, Try.ntmps33
      go_wp2_with fail
      refine (mask_any _ _).mono ?_
      rintro e w1 ⟨rfl, hb1⟩
      have hZ := (at_new w w.heap.size 0#128 36 rfl).below hb1
      have kB := keepb hb1 (bl1 w _)
      obtain ⟨z0, z1, z2, z3, z4⟩ := hZ
      clear hb1
      go_wp2
      exact bodyPost_ret (by simp [results, Try.results33, go_sem, *]) rfl ⟨rfl, bset2 kB (Nat.le_refl _) _ _⟩

end Go.Proofs.Ytohnhpicjedfeaa
namespace Go.Proofs.Ytohnhpicjedfeaa
open Go.RowKit
set_option linter.unusedSimpArgs false
set_option linter.unusedVariables false

def cutW (x : BitVec 128) (n : Int) : BitVec 128 := x &&& maskW n
def AtP (w : World) (B : Nat) (x : BitVec 128) (n : Int) : Prop := w.cell? ⟨B, 0, none⟩ = some (.int .u64 (hI x)) ∧ w.cell? ⟨B, 1, none⟩ = some (.int .u64 (lI x)) ∧ w.cell? ⟨B, 2, none⟩ = some (.int .i64 n) ∧ w.frozen? ⟨B, 0, none⟩ = false ∧ w.frozen? ⟨B, 1, none⟩ = false ∧ w.frozen? ⟨B, 2, none⟩ = false
theorem AtP.below {w w' : World} {B : Nat} {x : BitVec 128} {n : Int} (h : AtP w B x n) (hb : Below w.heap.size w w') : AtP w' B x n := by
  obtain ⟨h0, h1, h2, h3, h4, h5⟩ := h
  exact ⟨keepc hb h0, keepc hb h1, keepc hb h2, keepf hb h0 h3, keepf hb h1 h4, keepf hb h2 h5⟩
theorem atp_new (w : World) (B : Nat) (x : BitVec 128) (n : Int) (T : TypeId) (h : B = w.heap.size) : AtP (w.alloc (.cells #[.int .u64 (hI x), .int .u64 (lI x), .int .i64 n] T)) B x n := by
  subst h
  refine ⟨?_, ?_, ?_, ?_, ?_, ?_⟩ <;> simp [go_sem]
theorem bset3 {n C : Nat} {w W : World} (h : Below n w W) (hp : n ≤ C) (u v t : Value) : Below n w (((W.setCell ⟨C, 0, none⟩ u).setCell ⟨C, 1, none⟩ v).setCell ⟨C, 2, none⟩ t) := ((h.setCell hp _).setCell hp _).setCell hp _

set_option maxHeartbeats 1000000 in
theorem cut_any (x : BitVec 128) (n : Int) (w : World) :
    Calls Try.prog 69 #[.agg #[.int .u64 (hI x), .int .u64 (lI x)], .int .i64 n] w fun e w' => e = .returned (.agg #[.int .u64 (hI (cutW x n)), .int .u64 (lI (cutW x n)), .int .i64 n]) ∧ Below w.heap.size w w' := by
  have hbl := fun o p => (bl2 w o p).drew
  unfold cutW
  go_enter Try.func69, Try.ntmps69
  go_wp2
  go_region_held3 (fun w' => w'.cell? ⟨w.heap.size, 0, none⟩ = some (.int .u64 (hI x)) ∧ w'.cell? ⟨w.heap.size, 1, none⟩ = some (.int .u64 (lI x)) ∧ w'.cell? ⟨w.heap.size + 1, 0, none⟩ = some (cv w' (w.heap.size + 1) 0) ∧ w'.cell? ⟨w.heap.size + 1, 1, none⟩ = some (cv w' (w.heap.size + 1) 1) ∧ w'.cell? ⟨w.heap.size + 1, 2, none⟩ = some (cv w' (w.heap.size + 1) 2) ∧ w'.frozen? ⟨w.heap.size + 1, 0, none⟩ = false ∧ w'.frozen? ⟨w.heap.size + 1, 1, none⟩ = false ∧ w'.frozen? ⟨w.heap.size + 1, 2, none⟩ = false ∧ Below w.heap.size w w')
    (first
      | (obtain ⟨k1, k2, k3, k4, k5, k6, k7, k8, k9⟩ := ‹_ ∧ _›; exact ⟨keepc hb2 k1, keepc hb2 k2, cv_of (keepc hb2 k3), cv_of (keepc hb2 k4), cv_of (keepc hb2 k5), keepf hb2 k3 k6, keepf hb2 k4 k7, keepf hb2 k5 k8, keepb hb2 k9⟩)
      | (obtain ⟨k1, k2, k3, k4, k5, k6, k7, k8, k9⟩ := ‹_ ∧ _›; exact ⟨keepc hb1 k1, keepc hb1 k2, cv_of (keepc hb1 k3), cv_of (keepc hb1 k4), cv_of (keepc hb1 k5), keepf hb1 k3 k6, keepf hb1 k4 k7, keepf hb1 k5 k8, keepb hb1 k9⟩)
      | (refine ⟨?_, ?_, cv_new ?_, cv_new ?_, cv_new ?_, ?_, ?_, ?_, ?_⟩ <;> first | (simp [go_sem, *]; done) | exact bset3 (by simp [*]) (by simp) _ _ _))
    (first | (go_at_call 47; refine (mask_any _ _).mono ?_; rintro e w1 ⟨rfl, hb1⟩) | (go_at_call 79; refine (and_any _ _ _).mono ?_; rintro e w2 ⟨rfl, hb2⟩))
  obtain ⟨-, -, -, -, -, -, -, -, kB⟩ := ‹_ ∧ _›
  have e0 : w2.cell? ⟨w.heap.size + 1, 0, none⟩ = some (.int .u64 0) := keepc hb2 (keepc hb1 (by simp [go_sem]))
  have e1 : w2.cell? ⟨w.heap.size + 1, 1, none⟩ = some (.int .u64 0) := keepc hb2 (keepc hb1 (by simp [go_sem]))
  have e2 : w2.cell? ⟨w.heap.size + 1, 2, none⟩ = some (.int .i64 0) := keepc hb2 (keepc hb1 (by simp [go_sem]))
  go_wp2
  exact bodyPost_ret (v := .agg #[.int .u64 (hI (x &&& maskW n)), .int .u64 (lI (x &&& maskW n)), .int .i64 n]) (by simp [results, Try.results69, go_sem, e0, e1, e2]) rfl ⟨rfl, kB⟩

theorem eqw (c x : BitVec 128) : ((hI c == hI x) = true ∧ (lI c == lI x) = true ∧ (c == x) = true) ∨ ((hI c == hI x) = false ∧ (c == x) = false) ∨ ((hI c == hI x) = true ∧ (lI c == lI x) = false ∧ (c == x) = false) := by
  rw [← beq_ints c x]
  cases hI c == hI x <;> cases lI c == lI x <;> simp

set_option maxHeartbeats 1000000 in
theorem has_any (x : BitVec 128) (n : Int) (y : BitVec 128) (w : World) :
    Calls Try.prog 72 #[.agg #[.int .u64 (hI x), .int .u64 (lI x), .int .i64 n], .agg #[.int .u64 (hI y), .int .u64 (lI y)]] w fun e w' => e = .returned (.bool (cutW y n == x)) ∧ Below w.heap.size w w' := by
  have hbl := fun o p => (bl2 w o p).drew
  have KC := fun w => cut_any y n w
  revert KC
  generalize cutW y n = c
  intro KC
  have hnn : (n == n) = true := by simp
  rcases eqw c x with ⟨q1, q2, q3⟩ | ⟨q1, q3⟩ | ⟨q1, q2, q3⟩
  all_goals
    rw [q3]
    clear q3
    go_enter Try.func72, Try.ntmps72
    go_wp2
    go_region_held3 (fun w' => w'.cell? ⟨w.heap.size, 0, none⟩ = some (.int .u64 (hI x)) ∧ w'.cell? ⟨w.heap.size, 1, none⟩ = some (.int .u64 (lI x)) ∧ w'.cell? ⟨w.heap.size, 2, none⟩ = some (.int .i64 n) ∧ w'.cell? ⟨w.heap.size + 1, 0, none⟩ = some (.int .u64 (hI y)) ∧ w'.cell? ⟨w.heap.size + 1, 1, none⟩ = some (.int .u64 (lI y)) ∧ Below w.heap.size w w')
      (first
        | (obtain ⟨k1, k2, k3, k4, k5, k9⟩ := ‹_ ∧ _›; exact ⟨keepc hb1 k1, keepc hb1 k2, keepc hb1 k3, keepc hb1 k4, keepc hb1 k5, keepb hb1 k9⟩)
        | (refine ⟨?_, ?_, ?_, ?_, ?_, ?_⟩ <;> first | (simp [go_sem, *]; done) | exact hbl _ _))
      (first | (go_at_call 69; refine (KC _).mono ?_; rintro e w1 ⟨rfl, hb1⟩))
    obtain ⟨-, -, -, -, -, kB⟩ := ‹_ ∧ _›
    go_wp2
    go_ret
    exact ⟨rfl, kB⟩
end Go.Proofs.Ytohnhpicjedfeaa
namespace Go.Proofs.Ytohnhpicjedfeaa
open Go.RowKit
set_option linter.unusedSimpArgs false
set_option linter.unusedVariables false

def leadN (z : BitVec 128) : Nat := if z.toNat = 0 then 128 else 127 - z.toNat.log2
theorem lead_char (z : BitVec 128) (k : Nat) (hk : k ≤ 128) (h1 : z.toNat < 2 ^ (128 - k)) (h2 : k = 128 ∨ 2 ^ (127 - k) ≤ z.toNat) : leadN z = k := by
  unfold leadN
  split
  · rename_i h
    rcases h2 with h2 | h2
    · exact h2.symm
    · rw [h] at h2; have := Nat.two_pow_pos (127 - k); omega
  · rename_i h
    have hlt : z.toNat.log2 < 128 - k := (Nat.log2_lt h).mpr h1
    rcases h2 with h2 | h2
    · subst h2; simp at hlt
    · have := (Nat.le_log2 h).mpr h2; omega
theorem bit_step (z : BitVec 128) (k : Nat) (hk : k < 128) (h : z.toNat < 2 ^ (128 - k)) : (z.getLsbD (127 - k) = false → z.toNat < 2 ^ (128 - (k + 1))) ∧ (z.getLsbD (127 - k) = true → 2 ^ (127 - k) ≤ z.toNat) := by
  have e : 128 - k = (127 - k) + 1 := by omega
  have e2 : 128 - (k + 1) = 127 - k := by omega
  rw [e, Nat.pow_succ] at h
  rw [e2]
  have t : z.getLsbD (127 - k) = decide (z.toNat / 2 ^ (127 - k) % 2 = 1) := by
    unfold BitVec.getLsbD; rw [Nat.testBit_eq_decide_div_mod_eq]
  have hd : z.toNat / 2 ^ (127 - k) < 2 := by
    apply Nat.div_lt_of_lt_mul; omega
  constructor
  · intro hf
    rw [t] at hf
    have hq := of_decide_eq_false hf
    have : z.toNat / 2 ^ (127 - k) = 0 := by
      generalize z.toNat / 2 ^ (127 - k) = q at hq hd
      omega
    rcases Nat.div_eq_zero_iff.mp this with h0 | h0
    · have := Nat.two_pow_pos (127 - k); omega
    · exact h0
  · intro hf
    rw [t] at hf; simp at hf
    apply Classical.byContradiction; intro hn
    have : z.toNat / 2 ^ (127 - k) = 0 := Nat.div_eq_of_lt (by omega)
    omega
theorem bitZ_eq (x y : BitVec 128) (k : Nat) (hk : k < 128) : bitZ x (k : Int) = bitZ y (k : Int) ↔ (x ^^^ y).getLsbD (127 - k) = false := by
  have e : (127 - (k : Int)).toNat = 127 - k := by omega
  unfold bitZ
  rw [bitB_in x k (by omega) (by omega), bitB_in y k (by omega) (by omega), e, BitVec.getLsbD_xor]
  cases x.getLsbD (127 - k) <;> cases y.getLsbD (127 - k) <;> simp

theorem lead_wide (v : BitVec 128) (n : Int) (h0 : 0 ≤ n) (h1 : n ≤ 128) : ((leadN v : Nat) : Int) < 128 - n ↔ ¬ v >>> n.toNat = 0#128 := by
  have hv := v.isLt
  have key : v >>> n.toNat = 0#128 ↔ v.toNat < 2 ^ n.toNat := by
    constructor
    · intro h
      have := congrArg BitVec.toNat h
      rw [BitVec.toNat_ushiftRight, Nat.shiftRight_eq_div_pow] at this
      have this2 : v.toNat / 2 ^ n.toNat = 0 := this
      rcases Nat.div_eq_zero_iff.mp this2 with h0 | h0
      · have := Nat.two_pow_pos n.toNat; omega
      · exact h0
    · intro h
      apply BitVec.eq_of_toNat_eq
      rw [BitVec.toNat_ushiftRight, Nat.shiftRight_eq_div_pow, Nat.div_eq_of_lt h]; rfl
  rw [key]
  unfold leadN
  split
  · rename_i h
    rw [h]; have := Nat.two_pow_pos n.toNat
    constructor
    · intro; omega
    · intro; omega
  · rename_i h
    have hl : v.toNat.log2 < 128 := (Nat.log2_lt h).mpr hv
    have := Nat.log2_lt (k := n.toNat) h
    constructor
    · intro g g2
      have := this.mpr g2; omega
    · intro g
      have : ¬ v.toNat.log2 < n.toNat := fun q => g (this.mp q)
      omega

end Go.Proofs.Ytohnhpicjedfeaa
namespace Go.Proofs.Ytohnhpicjedfeaa
open Go.RowKit
set_option linter.unusedSimpArgs false
set_option linter.unusedVariables false

def ocB (b : Nat) : Nat := b % 2 + b / 2 % 2 + b / 4 % 2 + b / 8 % 2 + b / 16 % 2 + b / 32 % 2 + b / 64 % 2 + b / 128 % 2
def bm (f : Nat → Nat) : Nat → Nat → Nat
  | 0, _ => 0
  | k + 1, x => f (x % 256) + 256 * bm f k (x / 256)
def mm (m : Nat) : Nat → Nat
  | 0 => 0
  | k + 1 => m + 256 * mm m k
def f1 (b : Nat) : Nat := ((b / 2) &&& 85) + (b &&& 85)
def f2 (b : Nat) : Nat := ((b / 4) &&& 51) + (b &&& 51)
theorem and_split (a m M : Nat) (hm : m < 256) : a &&& (m + 256 * M) = ((a % 256) &&& m) + 256 * ((a / 256) &&& M) := by
  have h1 : (a &&& (m + 256 * M)) % 2 ^ 8 = (a % 2 ^ 8) &&& ((m + 256 * M) % 2 ^ 8) := Nat.and_mod_two_pow
  have h2 : (a &&& (m + 256 * M)) / 2 ^ 8 = (a / 2 ^ 8) &&& ((m + 256 * M) / 2 ^ 8) := Nat.and_div_two_pow
  have e1 : (m + 256 * M) % 2 ^ 8 = m := by omega
  have e2 : (m + 256 * M) / 2 ^ 8 = M := by omega
  rw [e1] at h1
  rw [e2] at h2
  have e3 : (2 : Nat) ^ 8 = 256 := by decide
  rw [e3] at h1 h2
  have := Nat.div_add_mod (a &&& (m + 256 * M)) 256
  omega
set_option maxRecDepth 100000 in
theorem b1 : ∀ b : Fin 256, ∀ c : Fin 2, (b.val / 2 + 128 * c.val) &&& 85 = (b.val / 2) &&& 85 := by decide +kernel
theorem b2 : ∀ b : Fin 256, ∀ c : Fin 4, (b.val / 4 + 64 * c.val) &&& 51 = (b.val / 4) &&& 51 := by decide +kernel
theorem b3 : ∀ b : Fin 256, ∀ c : Fin 5, (f2 (f1 b.val) / 16 + 16 * c.val + f2 (f1 b.val)) &&& 15 = ocB b.val := by decide +kernel
theorem b4 : ∀ b : Fin 256, f1 b.val < 256 ∧ f2 (f1 b.val) % 16 ≤ 4 ∧ f2 (f1 b.val) / 16 ≤ 4 ∧ ocB b.val ≤ 8 ∧ ocB (255 - b.val) + ocB b.val = 8 := by decide +kernel
theorem l1 (k : Nat) : ∀ x, ((x / 2) &&& mm 85 k) + (x &&& mm 85 k) = bm f1 k x := by
  induction k with
  | zero => intro x; simp [mm, bm]
  | succ k ih =>
    intro x
    simp only [mm, bm]
    rw [and_split _ 85 _ (by decide), and_split _ 85 _ (by decide)]
    have e1 : (x / 2) % 256 = (x % 256) / 2 + 128 * (x / 256 % 2) := by omega
    have e2 : x / 2 / 256 = x / 256 / 2 := by omega
    have hb := b1 ⟨x % 256, by omega⟩ ⟨x / 256 % 2, by omega⟩
    have := ih (x / 256)
    rw [e1, e2]
    simp only at hb
    rw [hb]
    have hf : f1 (x % 256) = ((x % 256 / 2) &&& 85) + ((x % 256) &&& 85) := rfl
    omega
theorem l2 (k : Nat) : ∀ x, ((x / 4) &&& mm 51 k) + (x &&& mm 51 k) = bm f2 k x := by
  induction k with
  | zero => intro x; simp [mm, bm]
  | succ k ih =>
    intro x
    simp only [mm, bm]
    rw [and_split _ 51 _ (by decide), and_split _ 51 _ (by decide)]
    have e1 : (x / 4) % 256 = (x % 256) / 4 + 64 * (x / 256 % 4) := by omega
    have e2 : x / 4 / 256 = x / 256 / 4 := by omega
    have hb := b2 ⟨x % 256, by omega⟩ ⟨x / 256 % 4, by omega⟩
    have := ih (x / 256)
    rw [e1, e2]
    simp only at hb
    rw [hb]
    have hf : f2 (x % 256) = ((x % 256 / 4) &&& 51) + ((x % 256) &&& 51) := rfl
    omega
theorem bm_bm (k : Nat) : ∀ x, bm f2 k (bm f1 k x) = bm (fun b => f2 (f1 b)) k x := by
  induction k with
  | zero => intro x; rfl
  | succ k ih =>
    intro x
    have h := (b4 ⟨x % 256, by omega⟩).1
    simp only at h
    simp only [bm]
    have e1 : (f1 (x % 256) + 256 * bm f1 k (x / 256)) % 256 = f1 (x % 256) := by omega
    have e2 : (f1 (x % 256) + 256 * bm f1 k (x / 256)) / 256 = bm f1 k (x / 256) := by omega
    rw [e1, e2, ih]
theorem bm_mod (k : Nat) (x : Nat) : bm (fun b => f2 (f1 b)) k x % 16 ≤ 4 := by
  cases k with
  | zero => simp [bm]
  | succ k =>
    have h := (b4 ⟨x % 256, by omega⟩).2.1
    simp only at h
    simp only [bm]; omega
theorem l3 (k : Nat) : ∀ x, (bm (fun b => f2 (f1 b)) k x / 16 + bm (fun b => f2 (f1 b)) k x) &&& mm 15 k = bm ocB k x := by
  induction k with
  | zero => intro x; simp [mm, bm]
  | succ k ih =>
    intro x
    simp only [mm]
    rw [and_split _ 15 _ (by decide)]
    have hm := bm_mod k (x / 256)
    have h := (b4 ⟨x % 256, by omega⟩).2.1
    have h' := (b4 ⟨x % 256, by omega⟩).2.2.1
    have hb := b3 ⟨x % 256, by omega⟩ ⟨bm (fun b => f2 (f1 b)) k (x / 256) % 16, by omega⟩
    have := ih (x / 256)
    simp only [bm] at *
    generalize bm (fun b => f2 (f1 b)) k (x / 256) = y at *
    generalize f2 (f1 (x % 256)) = g at *
    have e1 : ((g + 256 * y) / 16 + (g + 256 * y)) % 256 = g / 16 + 16 * (y % 16) + g := by omega
    have e2 : ((g + 256 * y) / 16 + (g + 256 * y)) / 256 = y / 16 + y := by omega
    rw [e1, e2, hb, this]
theorem key (n a B z : Nat) (h : a < n) (e : z = a + n * B) : z / n = B := by
  rw [e, Nat.add_mul_div_left _ _ (by omega), Nat.div_eq_of_lt h]; omega
end Go.Proofs.Ytohnhpicjedfeaa
