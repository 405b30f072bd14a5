/-
  Part 2 of the proof: 6 texts, one behind the other.
-/
import Derived.Test.YtpiicdpipjjenaaGreatDoorPart1
import Derived.Deep.RegionHeld3
import Derived.BigQuiet
import Derived.WalkMore
import Derived.Deep.LoopGhost
import Derived.Lib.Strings
import Derived.Laws.IdiomStrings
namespace Go.Proofs.YtpiicdpipjjenaaGreatDoor
open Go.RowKit
set_option linter.unusedSimpArgs false
set_option linter.unusedVariables false

set_option maxHeartbeats 400000 in
theorem put_any (x : BitVec 128) (i b : Int) (w : World) (hb : b = 0 ∨ b = 1) (h0 : 0 ≤ i) (h1 : i ≤ 127) :
    Calls Tryz.prog 76 #[.agg #[.int .u64 (hI x), .int .u64 (lI x)], .int .i64 i, .int .i64 b] w fun e w' => e = .returned (.agg #[.int .u64 (hI (putW x i b)), .int .u64 (lI (putW x i b))]) ∧ Below w.heap.size w w' := by
  by_cases h2 : i < 64
  · rcases hb with rfl | rfl
    · rw [put_l0 x i 0 (Or.inl rfl) h0 h2, ← put_h0 x i h0 h2]
      go_enter Tryz.func76, Tryz.ntmps76
      go_wp2
      go_region
      all_goals go_wp2
      all_goals exact bodyPost_ret (v := .agg #[.int .u64 (bits .or .u64 (bits .andNot .u64 (hI x) (IntKind.u64.wrap (2 ^ (63 - i).toNat))) 0), .int .u64 (lI x)]) (by simp [results, Tryz.results76, go_sem]) rfl ⟨rfl, (bl2 _ _ _).drew⟩
    · rw [put_l0 x i 1 (Or.inr rfl) h0 h2, ← put_h1 x i h0 h2]
      go_enter Tryz.func76, Tryz.ntmps76
      go_wp2
      go_region
      all_goals go_wp2
      all_goals exact bodyPost_ret (v := .agg #[.int .u64 (bits .or .u64 (bits .andNot .u64 (hI x) (IntKind.u64.wrap (2 ^ (63 - i).toNat))) (IntKind.u64.wrap (2 ^ (63 - i).toNat))), .int .u64 (lI x)]) (by simp [results, Tryz.results76, go_sem]) rfl ⟨rfl, (bl2 _ _ _).drew⟩
  · rcases hb with rfl | rfl
    · rw [put_hh x i 0 (Or.inl rfl) (by omega) h1, ← put_l00 x i (by omega) h1]
      go_enter Tryz.func76, Tryz.ntmps76
      go_wp2
      go_region
      all_goals go_wp2
      all_goals exact bodyPost_ret (v := .agg #[.int .u64 (hI x), .int .u64 (bits .or .u64 (bits .andNot .u64 (lI x) (IntKind.u64.wrap (2 ^ (127 - i).toNat))) 0)]) (by simp [results, Tryz.results76, go_sem]) rfl ⟨rfl, (bl2 _ _ _).drew⟩
    · rw [put_hh x i 1 (Or.inr rfl) (by omega) h1, ← put_l1 x i (by omega) h1]
      go_enter Tryz.func76, Tryz.ntmps76
      go_wp2
      go_region
      all_goals go_wp2
      all_goals exact bodyPost_ret (v := .agg #[.int .u64 (hI x), .int .u64 (bits .or .u64 (bits .andNot .u64 (lI x) (IntKind.u64.wrap (2 ^ (127 - i).toNat))) (IntKind.u64.wrap (2 ^ (127 - i).toNat)))]) (by simp [results, Tryz.results76, go_sem]) rfl ⟨rfl, (bl2 _ _ _).drew⟩

def At (w : World) (B : Nat) (x : BitVec 128) : Prop := w.cell? ⟨B, 0, none⟩ = some (.int .u64 (hI x)) ∧ w.cell? ⟨B, 1, none⟩ = some (.int .u64 (lI x)) ∧ w.frozen? ⟨B, 0, none⟩ = false ∧ w.frozen? ⟨B, 1, none⟩ = false ∧ B < w.heap.size
theorem At.below {w w' : World} {B : Nat} {x : BitVec 128} (h : At w B x) (hb : Below w.heap.size w w') : At w' B x := by
  obtain ⟨h0, h1, h2, h3, h4⟩ := h
  obtain ⟨hc, hf⟩ := bcell hb
  exact ⟨by rw [hc _ _ h4]; exact h0, by rw [hc _ _ h4]; exact h1, by rw [hf _ _ h4]; exact h2, by rw [hf _ _ h4]; exact h3, Nat.lt_of_lt_of_le h4 hb.size⟩
theorem At.set {w : World} {B : Nat} {x : BitVec 128} (y : BitVec 128) (h : At w B x) : At ((w.setCell ⟨B, 0, none⟩ (.int .u64 (hI y))).setCell ⟨B, 1, none⟩ (.int .u64 (lI y))) B y := by
  obtain ⟨h0, h1, h2, h3, h4⟩ := h
  refine ⟨?_, ?_, ?_, ?_, ?_⟩ <;> simp [go_sem, *]

theorem At.other {w : World} {B C : Nat} {x : BitVec 128} (u v : Value) (h : At w B x) (hn : B ≠ C) : At ((w.setCell ⟨C, 0, none⟩ u).setCell ⟨C, 1, none⟩ v) B x := by
  obtain ⟨h0, h1, h2, h3, h4⟩ := h
  have hn' : ¬ C = B := fun e => hn e.symm
  refine ⟨?_, ?_, ?_, ?_, ?_⟩ <;> simp [go_sem, *]
theorem maskW_end (n : Int) (k : Nat) (hk : k ≤ 128) (hkn : k = 0 ∨ (k : Int) ≤ n) (hc : ¬ ((k : Int) < n ∧ k < 128)) : maskW (k : Int) = maskW n := by
  by_cases h : n ≤ 0
  · have : k = 0 := by omega
    subst this
    rw [maskW_neg n h]; exact maskW_0
  · by_cases g : (k : Int) = n
    · rw [g]
    · have : k = 128 := by omega
      subst this
      rw [maskW_all n (by omega)]; rfl

set_option maxHeartbeats 400000 in
theorem rmask_any (n : Int) (w : World) :
    Calls Tryz.prog 53 #[.int .i64 n] w fun e w' => e = .returned (.agg #[.int .u64 (hI (maskW n)), .int .u64 (lI (maskW n))]) ∧ Below w.heap.size w w' := by
  go_enter Tryz.func53, Tryz.ntmps53
  go_wp2
  go_loopw [4] (fun i wr => ∃ k : Nat, k ≤ 128 ∧ (k = 0 ∨ (k : Int) ≤ n) ∧ i = .int .i64 k ∧ At wr (w.heap.size + 1) (maskW k) ∧ At wr w.heap.size 0#128 ∧ Below w.heap.size w wr)
    (fun i _ => 128 - (intOf i).toNat)
  case atStart =>
    refine ⟨0, by omega, Or.inl rfl, rfl, ?_, ?_, bl2 _ _ _⟩
    · show At _ _ (maskW 0)
      rw [maskW_0]; refine ⟨?_, ?_, ?_, ?_, ?_⟩ <;> simp [go_sem, hI_zero, lI_zero]
    · refine ⟨?_, ?_, ?_, ?_, ?_⟩ <;> simp [go_sem, hI_zero, lI_zero]
  case round =>
    obtain ⟨k, hk, hkn, rfl, hA, hR, hB⟩ := hrel
    by_cases hc : (k : Int) < n ∧ k < 128
    · obtain ⟨h1, h2⟩ := hc
      have h3 : (k : Int) < 128 := by omega
      obtain ⟨a0, a1, a2, a3, a4⟩ := id hA
      clear hkn
      go_wp2_with fail
      refine (put_any _ _ _ _ (Or.inr rfl) (by omega) (by omega)).mono ?_
      rintro e w1 ⟨rfl, hb1⟩
      have hA1 := hA.below hb1
      have hR1 := hR.below hb1
      obtain ⟨b0, b1, b2, b3, b4⟩ := id hA1
      go_wp2
      go_roundw
      case rel =>
        refine ⟨k + 1, by omega, Or.inr (by omega), by go_num, ?_, ?_, ?_⟩
        · rw [← maskW_succ k h2]; exact hA1.set _
        · exact hR1.other _ _ (by omega)
        · exact ((hB.trans (hb1.mono hB.size)).setCell (by simp) _).setCell (by simp) _
      case measure => simp [intOf]; omega
    · have he := maskW_end n k hk hkn hc
      obtain ⟨a0, a1, a2, a3, a4⟩ := id hA
      obtain ⟨r0, r1, r2, r3, r4⟩ := id hR
      have HE : Hid (maskW (k : Int) = maskW n) := he
      clear he
      by_cases h1 : (k : Int) < n
      · have h2 : ¬ (k : Int) < 128 := by omega
        clear hkn hc
        go_wp2
        exact bodyPost_ret (v := .agg #[.int .u64 (hI (maskW k)), .int .u64 (lI (maskW k))]) (by simp [results, Tryz.results53, go_sem, *]) rfl ⟨by rw [HE.out], (hB.setCell (by simp) _).setCell (by simp) _⟩
      · clear hkn hc
        go_wp2
        exact bodyPost_ret (v := .agg #[.int .u64 (hI (maskW k)), .int .u64 (lI (maskW k))]) (by simp [results, Tryz.results53, go_sem, *]) rfl ⟨by rw [HE.out], (hB.setCell (by simp) _).setCell (by simp) _⟩

set_option maxHeartbeats 400000 in
theorem rcmp_any (x y : BitVec 128) (w : World) :
    Calls Tryz.prog 45 #[.agg #[.int .u64 (hI x), .int .u64 (lI x)], .agg #[.int .u64 (hI y), .int .u64 (lI y)]] w fun e w' => e = .returned (.int .i64 (cmpZ x y)) ∧ Below w.heap.size w w' := by
  rcases cmp_ways x y with ⟨h, c⟩ | ⟨h, g, c⟩ | ⟨h, c⟩ | ⟨h, c⟩ | ⟨h, g, c⟩
  · rw [c]; clear c
    go_enter Tryz.func45, Tryz.ntmps45
    go_wp2
    go_ret
    exact ⟨rfl, bl2 _ _ _⟩
  · rw [c, h]; clear c h
    go_enter Tryz.func45, Tryz.ntmps45
    go_wp2
    go_ret
    exact ⟨rfl, bl2 _ _ _⟩
  · rw [c]; clear c; subst h
    go_enter Tryz.func45, Tryz.ntmps45
    go_wp2
    go_ret
    exact ⟨rfl, bl2 _ _ _⟩
  · rw [c]; clear c
    have ne : ¬ hI x = hI y := by omega
    go_enter Tryz.func45, Tryz.ntmps45
    go_wp2
    go_ret
    exact ⟨rfl, bl2 _ _ _⟩
  · rw [c, h]; clear c h
    have ne : ¬ lI x = lI y := by omega
    go_enter Tryz.func45, Tryz.ntmps45
    go_wp2
    go_ret
    exact ⟨rfl, bl2 _ _ _⟩
end Go.Proofs.YtpiicdpipjjenaaGreatDoor
namespace Go.Proofs.YtpiicdpipjjenaaGreatDoor
open Go.RowKit
set_option linter.unusedSimpArgs false
set_option linter.unusedVariables false

def byteAt (s : ByteArray) (k : Nat) : Int := if h : k < s.size then (s[k].toNat : Int) else 0
theorem byteAt_in (s : ByteArray) (k : Nat) (h : k < s.size) : (s[k].toNat : Int) = byteAt s k := by unfold byteAt; rw [dif_pos h]
theorem byteAt_bd (s : ByteArray) (k : Nat) : 0 ≤ byteAt s k ∧ byteAt s k ≤ 255 := by
  unfold byteAt; split
  · rename_i h; have := s[k].toNat_lt; omega
  · omega
end Go.Proofs.YtpiicdpipjjenaaGreatDoor
namespace Go.Proofs.YtpiicdpipjjenaaGreatDoor
open Go.RowKit
set_option linter.unusedSimpArgs false
set_option linter.unusedVariables false

def numR (t : ByteArray) : Nat → Nat → Int → Int × Int
  | 0, k, n => (n, k)
  | f + 1, k, n => if 48 ≤ byteAt t k ∧ byteAt t k ≤ 57 then (if 255 < 10 * n + (byteAt t k - 48) then (0, 0) else if 10 * n + (byteAt t k - 48) = 0 then (0, (k : Int) + 1) else numR t f (k + 1) (10 * n + (byteAt t k - 48))) else (n, k)
def numV (t : ByteArray) : Int := (numR t t.size 0 0).1
def numN (t : ByteArray) : Int := (numR t t.size 0 0).2

set_option maxHeartbeats 1000000 in
theorem number_any (t : ByteArray) (w : World) (hs : t.size ≤ maxLen) :
    Calls Tryz.prog 125 #[.string t] w fun e w' => e = .returned (.tuple #[.int .u64 (numV t), .int .i64 (numN t)]) ∧ w' = w := by
  unfold maxLen at hs
  go_enter Tryz.func125, Tryz.ntmps125
  go_wp2
  go_loopw [2, 3] (fun a b wr => ∃ (k : Nat) (n : Int), a = .int .u64 n ∧ b = .int .i64 k ∧ k ≤ t.size ∧ 0 ≤ n ∧ n ≤ 255 ∧ Hid (numR t (t.size - k) k n = numR t t.size 0 0) ∧ wr = w) (fun _ b _ => t.size - (intOf b).toNat)
  case atStart => exact ⟨0, 0, rfl, rfl, by omega, by omega, by omega, rfl, rfl⟩
  case round =>
    obtain ⟨k, n, rfl, rfl, hk, h0, h1, HR, rfl⟩ := hrel
    by_cases hlt : k < t.size
    · have hbt := byteAt_in t k hlt
      have bd := byteAt_bd t k
      have HU : Hid (t.size - k = (t.size - (k + 1)) + 1) := by show _ = _; omega
      have HS : Hid (∀ f, numR t (f + 1) k n = if 48 ≤ byteAt t k ∧ byteAt t k ≤ 57 then (if 255 < 10 * n + (byteAt t k - 48) then (0, 0) else if 10 * n + (byteAt t k - 48) = 0 then (0, (k : Int) + 1) else numR t f (k + 1) (10 * n + (byteAt t k - 48))) else (n, k)) := fun _ => rfl
      generalize byteAt t k = c at *
      have hk2 : (k : Int) < (t.size : Int) := by omega
      by_cases hd : 48 ≤ c ∧ c ≤ 57
      · obtain ⟨d0, d1⟩ := id hd
        by_cases hm : 255 < 10 * n + (c - 48)
        · have HF : Hid (numV t = 0 ∧ numN t = 0) := by
            show _ ∧ _
            unfold numV numN; rw [← HR.out, HU.out, HS.out, if_pos hd, if_pos hm]; exact ⟨rfl, rfl⟩
          clear HS HU HR hd
          go_wp2
          go_ret2
          exact ⟨by rw [HF.out.1, HF.out.2]; rfl, rfl⟩
        · by_cases hz : 10 * n + (c - 48) = 0
          · have HF : Hid (numV t = 0 ∧ numN t = (k : Int) + 1) := by
              show _ ∧ _
              unfold numV numN; rw [← HR.out, HU.out, HS.out, if_pos hd, if_neg hm, if_pos hz]; exact ⟨rfl, rfl⟩
            clear HS HU HR hd
            go_wp2
            go_ret2
            exact ⟨by rw [HF.out.1, HF.out.2]; rfl, rfl⟩
          · have HF : Hid (numR t (t.size - (k + 1)) (k + 1) (10 * n + (c - 48)) = numR t t.size 0 0) := by
              show _ = _
              rw [← HR.out, HU.out, HS.out, if_pos hd, if_neg hm, if_neg hz]
            clear HS HU HR hd
            go_wp2
            go_roundw
            case rel => exact ⟨k + 1, 10 * n + (c - 48), rfl, by go_num, by omega, by omega, by omega, HF, trivial⟩
            case measure => simp [intOf]; omega
      · have HF : Hid (numV t = n ∧ numN t = (k : Int)) := by
          show _ ∧ _
          unfold numV numN; rw [← HR.out, HU.out, HS.out, if_neg hd]; exact ⟨rfl, rfl⟩
        clear HS HU HR
        by_cases d0 : 48 ≤ c
        · have d1 : ¬ c ≤ 57 := by omega
          go_wp2
          go_ret2
          exact ⟨by rw [HF.out.1, HF.out.2]; rfl, rfl⟩
        · go_wp2
          go_ret2
          exact ⟨by rw [HF.out.1, HF.out.2]; rfl, rfl⟩
    · have HF : Hid (numV t = n ∧ numN t = (k : Int)) := by
        show _ ∧ _
        have e : t.size - k = 0 := by omega
        unfold numV numN; rw [← HR.out, e]; exact ⟨rfl, rfl⟩
      clear HR
      go_wp2
      go_ret2
      exact ⟨by rw [HF.out.1, HF.out.2]; rfl, rfl⟩

def layW (x : BitVec 128) (i b v : Int) : BitVec 128 := x ||| (mkW 0 v <<< (128 - b * (i + 1)).toNat)
theorem shlK (v n : Int) (w : World) (h0 : 0 ≤ v) (h1 : v < 18446744073709551616) :
    Calls Tryz.prog 135 #[.agg #[.int .u64 0, .int .u64 v], .int .i64 n] w fun e w' => e = .returned (.agg #[.int .u64 (hI (mkW 0 v <<< n.toNat)), .int .u64 (lI (mkW 0 v <<< n.toNat))]) ∧ Below w.heap.size w w' := by
  have h := shl_any (mkW 0 v) n w
  rw [show hI (mkW 0 v) = 0 from hI_mk 0 v (by omega) (by omega), show lI (mkW 0 v) = v from lI_mk 0 v h0 h1] at h
  exact h

set_option maxHeartbeats 1000000 in
theorem aput_any (x : BitVec 128) (i b v : Int) (w : World) (h0 : 0 ≤ v) (h1 : v < 18446744073709551616) (i0 : 0 ≤ i) (i1 : i ≤ 16) (b0 : 0 ≤ b) (b1 : b ≤ 16) :
    Calls Tryz.prog 126 #[.agg #[.int .u64 (hI x), .int .u64 (lI x)], .int .i64 i, .int .i64 b, .int .u64 v] w fun e w' => e = .returned (.agg #[.int .u64 (hI (layW x i b v)), .int .u64 (lI (layW x i b v))]) ∧ Below w.heap.size w w' := by
  have KS := fun n w => shlK v n w h0 h1
  have hu1 : IntKind.i64.wrap (i + 1) = i + 1 := by rw [IntKind.wrap_i64]; omega
  have hm0 : 0 ≤ b * (i + 1) := Int.mul_nonneg b0 (by omega)
  have hm1 : b * (i + 1) ≤ 16 * 17 := Int.mul_le_mul b1 (by omega) (by omega) (by omega)
  have hu2 : IntKind.i64.wrap (b * (i + 1)) = b * (i + 1) := by rw [IntKind.wrap_i64]; omega
  have hu3 : IntKind.i64.wrap (128 - b * (i + 1)) = 128 - b * (i + 1) := by rw [IntKind.wrap_i64]; omega
  have hbl := fun o p => (bl2 w o p).drew
  go_enter Tryz.func126, Tryz.ntmps126
  go_wp2
  go_region_held3 (fun w' => w'.cell? ⟨w.heap.size, 0, none⟩ = some (.int .u64 (hI x)) ∧ w'.cell? ⟨w.heap.size, 1, none⟩ = some (.int .u64 (lI x)) ∧ w'.cell? ⟨w.heap.size + 1, 0, none⟩ = some (cv w' (w.heap.size + 1) 0) ∧ w'.cell? ⟨w.heap.size + 1, 1, none⟩ = some (cv w' (w.heap.size + 1) 1) ∧ w'.frozen? ⟨w.heap.size + 1, 0, none⟩ = false ∧ w'.frozen? ⟨w.heap.size + 1, 1, none⟩ = false ∧ Below w.heap.size w w')
    (first
      | (obtain ⟨k1, k2, k5, k6, k7, k8, k9⟩ := ‹_ ∧ _›; exact ⟨keepc hb2 k1, keepc hb2 k2, cv_of (keepc hb2 k5), cv_of (keepc hb2 k6), keepf hb2 k5 k7, keepf hb2 k6 k8, keepb hb2 k9⟩)
      | (obtain ⟨k1, k2, k5, k6, k7, k8, k9⟩ := ‹_ ∧ _›; exact ⟨keepc hb1 k1, keepc hb1 k2, cv_of (keepc hb1 k5), cv_of (keepc hb1 k6), keepf hb1 k5 k7, keepf hb1 k6 k8, keepb hb1 k9⟩)
      | (refine ⟨?_, ?_, cv_new ?_, cv_new ?_, ?_, ?_, ?_⟩ <;> first | (simp [go_sem, *]; done) | exact Below.setCell (Below.setCell (by simp [*]) (by simp) _) (by simp) _))
    (first | (go_at_call 135; refine (KS _ _).mono ?_; rintro e w1 ⟨rfl, hb1⟩) | (go_at_call 139; refine (or_any _ _ _).mono ?_; rintro e w2 ⟨rfl, hb2⟩))
  obtain ⟨-, -, -, -, -, -, kB⟩ := ‹_ ∧ _›
  have e0 : w2.cell? ⟨w.heap.size + 1, 0, none⟩ = some (.int .u64 0) := keepc hb2 (keepc hb1 (by simp [go_sem]))
  have e1 : w2.cell? ⟨w.heap.size + 1, 1, none⟩ = some (.int .u64 0) := keepc hb2 (keepc hb1 (by simp [go_sem]))
  go_wp2
  exact bodyPost_ret (v := .agg #[.int .u64 (hI (layW x i b v)), .int .u64 (lI (layW x i b v))]) (by simp [results, Tryz.results126, go_sem, e0, e1, layW]) rfl ⟨rfl, kB⟩

set_option maxHeartbeats 1000000 in
theorem part_any (x : BitVec 128) (i b : Int) (w : World) (i0 : 0 ≤ i) (i1 : i ≤ 16) (b0 : 0 ≤ b) (b1 : b * i ≤ 128 - b) :
    Calls Tryz.prog 87 #[.agg #[.int .u64 (hI x), .int .u64 (lI x)], .int .i64 i, .int .i64 b] w fun e w' => e = .returned (.int .u64 (lI ((x <<< (b * i).toNat) >>> (128 - b).toNat))) ∧ Below w.heap.size w w' := by
  have hm0 : 0 ≤ b * i := Int.mul_nonneg b0 i0
  have hu2 : IntKind.i64.wrap (b * i) = b * i := by rw [IntKind.wrap_i64]; omega
  have KF := fun w => field_in x (b * i) b w hm0 (by omega) b0 (by omega)
  go_enter Tryz.func87, Tryz.ntmps87
  go_wp2_with fail
  refine (KF _).mono ?_
  rintro e w1 ⟨rfl, hb1⟩
  have kB : Below w.heap.size w w1 := keepb hb1 (bl1 _ _)
  clear hb1 KF
  go_wp2
  go_ret
  exact ⟨rfl, kB.alloc (by have := kB.size; omega) _⟩
end Go.Proofs.YtpiicdpipjjenaaGreatDoor
namespace Go.Proofs.YtpiicdpipjjenaaGreatDoor
open Go.RowKit
set_option linter.unusedSimpArgs false
set_option linter.unusedVariables false

theorem numR_bd (t : ByteArray) : ∀ f k n, 0 ≤ n → n ≤ 255 → 0 ≤ (numR t f k n).1 ∧ (numR t f k n).1 ≤ 255 ∧ 0 ≤ (numR t f k n).2 ∧ (numR t f k n).2 ≤ (k : Int) + f := by
  intro f
  induction f with
  | zero => intro k n h0 h1; exact ⟨h0, h1, by show (0 : Int) ≤ (k : Int); omega, by show (k : Int) ≤ _; omega⟩
  | succ f ih =>
    intro k n h0 h1
    show 0 ≤ (if _ then _ else _ : Int × Int).1 ∧ (if _ then _ else _ : Int × Int).1 ≤ 255 ∧ 0 ≤ (if _ then _ else _ : Int × Int).2 ∧ (if _ then _ else _ : Int × Int).2 ≤ _
    split
    · split
      · simp; omega
      · split
        · simp; omega
        · have := ih (k + 1) (10 * n + (byteAt t k - 48)) (by omega) (by omega)
          omega
    · simp; omega
theorem num_bd (t : ByteArray) : 0 ≤ numV t ∧ numV t ≤ 255 ∧ 0 ≤ numN t ∧ numN t ≤ t.size := by
  have := numR_bd t t.size 0 0 (by omega) (by omega)
  unfold numV numN; omega

def fourR (s : ByteArray) : Nat → Nat → Nat → BitVec 128 → BitVec 128 × Bool
  | 0, _, _, _ => (0#128, false)
  | f + 1, i, a, x =>
    if numN (s.extract a s.size) = 0 then (0#128, false)
    else if i = 3 then (layW x i 8 (numV (s.extract a s.size)), decide (a + (numN (s.extract a s.size)).toNat = s.size))
    else if a + (numN (s.extract a s.size)).toNat = s.size ∨ byteAt s (a + (numN (s.extract a s.size)).toNat) ≠ 46 then (0#128, false)
    else fourR s f (i + 1) (a + (numN (s.extract a s.size)).toNat + 1) (layW x i 8 (numV (s.extract a s.size)))
def fourV (s : ByteArray) : BitVec 128 := (fourR s 4 0 0 0#128).1
def fourB (s : ByteArray) : Bool := (fourR s 4 0 0 0#128).2

theorem at_new (w : World) (B : Nat) (x : BitVec 128) (T : TypeId) (h : B = w.heap.size) : At (w.alloc (.cells #[.int .u64 (hI x), .int .u64 (lI x)] T)) B x := by
  subst h
  refine ⟨?_, ?_, ?_, ?_, ?_⟩ <;> simp [go_sem]

theorem bset2 {n C : Nat} {w W : World} (h : Below n w W) (hp : n ≤ C) (u v : Value) : Below n w ((W.setCell ⟨C, 0, none⟩ u).setCell ⟨C, 1, none⟩ v) := (h.setCell hp _).setCell hp _

set_option maxHeartbeats 4000000 in
theorem readFour_any (s : ByteArray) (w : World) (hs : s.size ≤ maxLen) :
    Calls Tryz.prog 113 #[.string s] w fun e w' => e = .returned (.tuple #[.agg #[.int .u64 (hI (fourV s)), .int .u64 (lI (fourV s))], .bool (fourB s)]) ∧ Below w.heap.size w w' := by
  have KN := fun a w => number_any (s.extract a s.size) w (by simp; omega)
  unfold maxLen at hs
  go_enter Tryz.func113, Tryz.ntmps113
  go_wp2
  go_step3
  go_wp2
  go_step3
  go_wp2
  go_loopw [5, 9] (fun p q wr => ∃ (i a : Nat) (x : BitVec 128), p = .int .i64 a ∧ q = .int .i64 i ∧ i ≤ 3 ∧ a ≤ s.size ∧ Hid (fourR s (4 - i) i a x = fourR s 4 0 0 0#128) ∧ At wr (w.heap.size + 1) x ∧ At wr w.heap.size 0#128 ∧ Below w.heap.size w wr) (fun _ q _ => 4 - (intOf q).toNat)
  case atStart =>
    refine ⟨0, 0, 0#128, rfl, rfl, by omega, by omega, rfl, ?_, ?_, bl2 _ _ _⟩
    · refine ⟨?_, ?_, ?_, ?_, ?_⟩ <;> simp [go_sem, hI_zero, lI_zero]
    · refine ⟨?_, ?_, ?_, ?_, ?_⟩ <;> simp [go_sem, hI_zero, lI_zero]
  case round =>
    obtain ⟨i, a, x, rfl, rfl, hi, ha, HR, hA, hZ, hB⟩ := hrel
    have bd := num_bd (s.extract a s.size)
    have ez : (s.extract a s.size).size = s.size - a := by simp
    rw [ez] at bd
    have HU : Hid (4 - i = (4 - (i + 1)) + 1) := by show _ = _; omega
    have HS : Hid (∀ f, fourR s (f + 1) i a x = if numN (s.extract a s.size) = 0 then (0#128, false) else if i = 3 then (layW x i 8 (numV (s.extract a s.size)), decide (a + (numN (s.extract a s.size)).toNat = s.size))
      else if a + (numN (s.extract a s.size)).toNat = s.size ∨ byteAt s (a + (numN (s.extract a s.size)).toNat) ≠ 46 then (0#128, false)
      else fourR s f (i + 1) (a + (numN (s.extract a s.size)).toNat + 1) (layW x i 8 (numV (s.extract a s.size)))) := fun _ => rfl
    have KA := KN a
    clear KN ez
    generalize numV (s.extract a s.size) = v at *
    generalize numN (s.extract a s.size) = z at *
    obtain ⟨v0, v1, z0, z1⟩ := bd
    obtain ⟨z, rfl⟩ := Int.eq_ofNat_of_zero_le z0
    simp only [Int.toNat_natCast] at HS
    have hi4 : (i : Int) < 4 := by omega
    have hlo : (a : Int) ≤ s.size := by omega
    obtain ⟨a0, a1, a2, a3, a4⟩ := id hA
    go_wp2_with fail
    refine (KA _).mono ?_
    rintro e w1 ⟨rfl, rfl⟩
    clear KA
    go_wp2_with fail
    refine (aput_any x i 8 v _ v0 (by omega) (by omega) (by omega) (by omega) (by omega)).mono ?_
    rintro e w2 ⟨rfl, hb2⟩
    have hA2 := (hA.below hb2).set (layW x i 8 v)
    have hZ2 := (hZ.below hb2).other (.int .u64 (hI (layW x i 8 v))) (.int .u64 (lI (layW x i 8 v))) (C := w.heap.size + 1) (by omega)
    have hB2 := bset2 (keepb hb2 hB) (C := w.heap.size + 1) (by omega) (.int .u64 (hI (layW x i 8 v))) (.int .u64 (lI (layW x i 8 v)))
    obtain ⟨b0, b1, b2, b3, b4⟩ := hA.below hb2
    obtain ⟨y0, y1, y2, y3, y4⟩ := hZ.below hb2
    clear hA hZ hB hb2 a0 a1 a2 a3 a4
    generalize layW x i 8 v = x' at *
    have hsum : IntKind.i64.wrap ((a : Int) + z) = ((a + z : Nat) : Int) := by rw [IntKind.wrap_i64]; omega
    by_cases hz : z = 0
    · have HF : Hid (fourV s = 0#128 ∧ fourB s = false) := by
        show _ ∧ _
        unfold fourV fourB; rw [← HR.out, HU.out, HS.out, if_pos (by omega)]; exact ⟨rfl, rfl⟩
      clear HR HU HS
      subst hz
      go_wp2
      rw [Exit.noGoto_ret]
      exact bodyPost_ret (v := .tuple #[.agg #[.int .u64 0, .int .u64 0], .bool false]) (by simp [results, Tryz.results113, go_sem, *]) rfl ⟨by rw [HF.out.1, HF.out.2, hI_zero, lI_zero], bset2 hB2 (Nat.le_refl _) _ _⟩
    have hz' : ¬ (z : Int) = 0 := by omega
    by_cases h3 : i = 3
    · have HF : Hid (fourV s = x' ∧ fourB s = decide (a + z = s.size)) := by
        show _ ∧ _
        unfold fourV fourB; rw [← HR.out, HU.out, HS.out, if_neg hz', if_pos h3]; exact ⟨rfl, rfl⟩
      clear HR HU HS
      subst h3
      have hd : (((a : Int) + z) == (s.size : Int)) = decide (a + z = s.size) := by rw [Bool.eq_iff_iff]; simp; omega
      go_wp2
      rw [Exit.noGoto_ret]
      exact bodyPost_ret (v := .tuple #[.agg #[.int .u64 (hI x'), .int .u64 (lI x')], .bool (decide (a + z = s.size))]) (by simp [results, Tryz.results113, go_sem, *]) rfl ⟨by rw [HF.out.1, HF.out.2], bset2 hB2 (Nat.le_refl _) _ _⟩
    have h3' : ¬ (i : Int) = 3 := by omega
    by_cases he : a + z = s.size
    · have HF : Hid (fourV s = 0#128 ∧ fourB s = false) := by
        show _ ∧ _
        unfold fourV fourB; rw [← HR.out, HU.out, HS.out, if_neg hz', if_neg h3, if_pos (Or.inl he)]; exact ⟨rfl, rfl⟩
      clear HR HU HS
      have hq : (a : Int) + z = (s.size : Int) := by omega
      go_wp2
      rw [Exit.noGoto_ret]
      exact bodyPost_ret (v := .tuple #[.agg #[.int .u64 0, .int .u64 0], .bool false]) (by simp [results, Tryz.results113, go_sem, *]) rfl ⟨by rw [HF.out.1, HF.out.2, hI_zero, lI_zero], bset2 hB2 (Nat.le_refl _) _ _⟩
    obtain ⟨m, HM⟩ : ∃ m, Hid (a + z = m) := ⟨_, rfl⟩
    simp only [HM.out] at HS he
    have hms : m < s.size := by have := HM.out; omega
    have hbt := byteAt_in s m hms
    have hm : (a : Int) + (z : Int) = (m : Int) := by have := HM.out; omega
    clear z1 hsum HM
    have hme : ¬ (m : Int) = (s.size : Int) := by omega
    have hsum : IntKind.i64.wrap (m : Int) = (m : Int) := by rw [IntKind.wrap_i64]; omega
    have hsu1 : IntKind.i64.wrap ((m : Int) + 1) = (m : Int) + 1 := by rw [IntKind.wrap_i64]; omega
    by_cases hc : byteAt s m = 46
    · have HF : Hid (fourR s (4 - (i + 1)) (i + 1) (m + 1) x' = fourR s 4 0 0 0#128) := by
        show _ = _
        rw [← HR.out, HU.out, HS.out, if_neg hz', if_neg h3, if_neg (by simp [he, hc])]
      clear HR HU HS
      rw [hc] at hbt
      clear hc
      go_wp2
      go_roundw
      case rel => exact ⟨i + 1, m + 1, x', by go_num, by go_num, by omega, by omega, HF, hA2, hZ2, hB2⟩
      case measure => simp [intOf]; omega
    · have HF : Hid (fourV s = 0#128 ∧ fourB s = false) := by
        show _ ∧ _
        unfold fourV fourB; rw [← HR.out, HU.out, HS.out, if_neg hz', if_neg h3, if_pos (Or.inr hc)]; exact ⟨rfl, rfl⟩
      clear HR HU HS
      generalize byteAt s m = c at *
      have hcb : (c != 46) = true := by simp [hc]
      go_wp2
      rw [Exit.noGoto_ret]
      exact bodyPost_ret (v := .tuple #[.agg #[.int .u64 0, .int .u64 0], .bool false]) (by simp [results, Tryz.results113, go_sem, *]) rfl ⟨by rw [HF.out.1, HF.out.2, hI_zero, lI_zero], bset2 hB2 (Nat.le_refl _) _ _⟩
end Go.Proofs.YtpiicdpipjjenaaGreatDoor
namespace Go.Proofs.YtpiicdpipjjenaaGreatDoor
open Go.RowKit
set_option linter.unusedSimpArgs false
set_option linter.unusedVariables false

def hexB (c : Int) : Bool := (decide (48 ≤ c) && decide (c ≤ 57)) || (decide (65 ≤ c) && decide (c ≤ 70)) || (decide (97 ≤ c) && decide (c ≤ 102))
def hexV (c : Int) : Int := if 48 ≤ c ∧ c ≤ 57 then c - 48 else if 65 ≤ c ∧ c ≤ 70 then c + 32 - 97 + 10 else if 97 ≤ c ∧ c ≤ 102 then c - 97 + 10 else 0
theorem hex_ways (c : Int) : (c < 48 ∧ hexB c = false ∧ hexV c = 0) ∨ (48 ≤ c ∧ c ≤ 57 ∧ hexB c = true ∧ hexV c = c - 48) ∨ (57 < c ∧ c < 65 ∧ hexB c = false ∧ hexV c = 0) ∨ (65 ≤ c ∧ c ≤ 70 ∧ hexB c = true ∧ hexV c = c + 32 - 97 + 10) ∨ (70 < c ∧ c < 97 ∧ hexB c = false ∧ hexV c = 0) ∨ (97 ≤ c ∧ c ≤ 102 ∧ hexB c = true ∧ hexV c = c - 97 + 10) ∨ (102 < c ∧ hexB c = false ∧ hexV c = 0) := by
  unfold hexB hexV
  by_cases h1 : c < 48
  · left
    have a1 : ¬ 48 ≤ c := by omega
    have a2 : ¬ 97 ≤ c := by omega
    have a3 : ¬ 65 ≤ c := by omega
    simp [a1, a2, a3, h1]
  by_cases h2 : c ≤ 57
  · right; left
    have a1 : 48 ≤ c := by omega
    simp [a1, h2]
  by_cases h3 : c < 65
  · right; right; left
    have a2 : ¬ 97 ≤ c := by omega
    have a3 : ¬ 65 ≤ c := by omega
    simp [h2, a2, a3, h3]; omega
  by_cases h4 : c ≤ 70
  · right; right; right; left
    have a3 : 65 ≤ c := by omega
    simp [h2, a3, h4]
  by_cases h5 : c < 97
  · right; right; right; right; left
    have a2 : ¬ 97 ≤ c := by omega
    simp [h2, a2, h4, h5]; omega
  by_cases h6 : c ≤ 102
  · right; right; right; right; right; left
    have a2 : 97 ≤ c := by omega
    simp [h2, a2, h4, h6]
  · right; right; right; right; right; right
    simp [h2, h4, h6]; omega
theorem hexV_bd (c : Int) : 0 ≤ hexV c ∧ hexV c ≤ 15 := by
  rcases hex_ways c with ⟨a, p, q⟩ | ⟨a, b, p, q⟩ | ⟨a, b, p, q⟩ | ⟨a, b, p, q⟩ | ⟨a, b, p, q⟩ | ⟨a, b, p, q⟩ | ⟨a, p, q⟩ <;> rw [q] <;> omega

set_option maxHeartbeats 1000000 in
theorem adigit_any (c : Int) (w : World) (h0 : 0 ≤ c) (h1 : c ≤ 255) :
    Calls Tryz.prog 141 #[.int .u8 c] w fun e w' => e = .returned (.tuple #[.int .u64 (hexV c), .bool (hexB c)]) ∧ w' = w := by
  rcases hex_ways c with ⟨a, p, q⟩ | ⟨a, b, p, q⟩ | ⟨a, b, p, q⟩ | ⟨a, b, p, q⟩ | ⟨a, b, p, q⟩ | ⟨a, b, p, q⟩ | ⟨a, p, q⟩
  all_goals
    rw [p, q]
    clear p q
    go_enter Tryz.func141, Tryz.ntmps141
    go_wp2
    go_ret2
  all_goals exact ⟨rfl, rfl⟩

theorem or4 (v d : Int) (h0 : 0 ≤ v) (h1 : v < 1152921504606846976) (d0 : 0 ≤ d) (d1 : d ≤ 15) : bits .or .u64 (IntKind.u64.wrap (v * 16)) d = 16 * v + d := by
  obtain ⟨n, rfl⟩ := Int.eq_ofNat_of_zero_le h0
  obtain ⟨m, rfl⟩ := Int.eq_ofNat_of_zero_le d0
  have e1 : IntKind.u64.wrap ((n : Int) * 16) = ((BitVec.ofNat 64 (n * 16)).toNat : Int) := by
    simp [IntKind.wrap, IntKind.bits, IntKind.signed, BitVec.toNat_ofNat]
  have e2 : (m : Int) = ((BitVec.ofNat 64 m).toNat : Int) := by
    simp [BitVec.toNat_ofNat]; omega
  rw [e1, e2, bits64or _ _ _ rfl, BitVec.toNat_or, BitVec.toNat_ofNat, BitVec.toNat_ofNat, Nat.mod_eq_of_lt (by omega), Nat.mod_eq_of_lt (by omega)]
  have := Nat.shiftLeft_add_eq_or_of_lt (b := m) (i := 4) (by omega) n
  rw [Nat.shiftLeft_eq] at this
  rw [show n * 16 = n * 2 ^ 4 from rfl, ← this]; omega

def grpR (t : ByteArray) : Nat → Nat → Int → Int × Int
  | 0, k, v => (v, k)
  | f + 1, k, v => if k < t.size ∧ hexB (byteAt t k) = true then grpR t f (k + 1) (16 * v + hexV (byteAt t k)) else (v, k)
def grpV (t : ByteArray) : Int := (grpR t 4 0 0).1
def grpN (t : ByteArray) : Int := (grpR t 4 0 0).2

set_option maxHeartbeats 1000000 in
theorem group_any (t : ByteArray) (w : World) (hs : t.size ≤ maxLen) :
    Calls Tryz.prog 128 #[.string t] w fun e w' => e = .returned (.tuple #[.int .u64 (grpV t), .int .i64 (grpN t)]) ∧ w' = w := by
  unfold maxLen at hs
  go_enter Tryz.func128, Tryz.ntmps128
  go_wp2
  go_loopw [2, 3] (fun a b wr => ∃ (k : Nat) (v : Int), a = .int .u64 v ∧ b = .int .i64 k ∧ k ≤ 4 ∧ k ≤ t.size ∧ 0 ≤ v ∧ Hid (v < 16 ^ k) ∧ Hid (grpR t (4 - k) k v = grpR t 4 0 0) ∧ wr = w) (fun _ b _ => 4 - (intOf b).toNat)
  case atStart => exact ⟨0, 0, rfl, rfl, by omega, by omega, by omega, by show (0 : Int) < 1; omega, rfl, rfl⟩
  case round =>
    obtain ⟨k, v, rfl, rfl, hk, hkt, v0, HV, HR, rfl⟩ := hrel
    by_cases hlt : k < t.size
    · have hk2 : (k : Int) < (t.size : Int) := by omega
      by_cases hk4 : k < 4
      · have hk5 : (k : Int) < 4 := by omega
        have hbt := byteAt_in t k hlt
        have bd := byteAt_bd t k
        have HU : Hid (4 - k = (4 - (k + 1)) + 1) := by show _ = _; omega
        have HS : Hid (∀ f, grpR t (f + 1) k v = if k < t.size ∧ hexB (byteAt t k) = true then grpR t f (k + 1) (16 * v + hexV (byteAt t k)) else (v, k)) := fun _ => rfl
        generalize byteAt t k = c at *
        have KD := fun w => adigit_any c w bd.1 bd.2
        have db := hexV_bd c
        have HP : Hid ((16 : Int) ^ k ≤ 16 ^ 3) := by
          show _ ≤ _
          rcases (by omega : k = 0 ∨ k = 1 ∨ k = 2 ∨ k = 3) with rfl | rfl | rfl | rfl <;> decide
        have hor := or4 v (hexV c) v0 (by have := HV.out; have := HP.out; omega) db.1 db.2
        cases hd : hexB c
        · have HF : Hid (grpV t = v ∧ grpN t = (k : Int)) := by
            show _ ∧ _
            unfold grpV grpN; rw [← HR.out, HU.out, HS.out, if_neg (by simp [hd])]; exact ⟨rfl, rfl⟩
          rw [hd] at KD
          clear HR HU HS HP HV hd
          go_wp2_with fail
          refine (KD _).mono ?_
          rintro e w1 ⟨rfl, rfl⟩
          clear KD
          go_wp2
          go_ret2
          exact ⟨by rw [HF.out.1, HF.out.2]; rfl, rfl⟩
        · have HF : Hid (grpR t (4 - (k + 1)) (k + 1) (16 * v + hexV c) = grpR t 4 0 0) := by
            show _ = _
            rw [← HR.out, HU.out, HS.out, if_pos ⟨hlt, hd⟩]
          have HV2 : Hid (16 * v + hexV c < 16 ^ (k + 1)) := by
            show _ < _
            have := HV.out
            rw [Int.pow_succ]; omega
          rw [hd] at KD
          clear HR HU HS HP HV hd
          generalize hexV c = d at *
          go_wp2_with fail
          refine (KD _).mono ?_
          rintro e w1 ⟨rfl, rfl⟩
          clear KD
          go_wp2
          go_roundw
          case rel => exact ⟨k + 1, 16 * v + d, rfl, by go_num, by omega, by omega, by omega, HV2, HF, trivial⟩
          case measure => simp [intOf]; omega
      · have HF : Hid (grpV t = v ∧ grpN t = (k : Int)) := by
          show _ ∧ _
          have e : k = 4 := by omega
          subst e
          unfold grpV grpN; rw [← HR.out]; exact ⟨rfl, rfl⟩
        clear HR HV
        have e : k = 4 := by omega
        subst e
        go_wp2
        go_ret2
        exact ⟨by rw [HF.out.1, HF.out.2]; rfl, rfl⟩
    · have HF : Hid (grpV t = v ∧ grpN t = (k : Int)) := by
        show _ ∧ _
        have hn : ∀ f, grpR t f k v = (v, (k : Int)) := by
          intro f; cases f with
          | zero => rfl
          | succ f => show (if _ then _ else _) = _; rw [if_neg (by simp [hlt])]
        unfold grpV grpN; rw [← HR.out, hn]; exact ⟨rfl, rfl⟩
      clear HR HV
      go_wp2
      go_ret2
      exact ⟨by rw [HF.out.1, HF.out.2]; rfl, rfl⟩

set_option maxHeartbeats 1000000 in
theorem hasP_any (t p : ByteArray) (w : World) (hs : t.size ≤ maxLen) (hp : p.size ≤ 2) :
    Calls Tryz.prog 127 #[.string t, .string p] w fun e w' => e = .returned (.bool (decide (p.size ≤ t.size) && ((t.extract 0 p.size).toList == p.toList))) ∧ w' = w := by
  unfold maxLen at hs
  by_cases h : p.size ≤ t.size
  · have h2 : (p.size : Int) ≤ (t.size : Int) := by omega
    go_enter Tryz.func127, Tryz.ntmps127
    go_wp2_with go_in
    go_ret
    exact ⟨by simp [h], rfl⟩
  · have h2 : ¬ (p.size : Int) ≤ (t.size : Int) := by omega
    go_enter Tryz.func127, Tryz.ntmps127
    go_wp2_with go_in
    go_ret
    exact ⟨by simp [h], rfl⟩

theorem byteAt_list (l : List UInt8) (k : Nat) : byteAt ⟨l.toArray⟩ k = match l[k]? with | some c => (c.toNat : Int) | none => 0 := by
  unfold byteAt
  have e : (⟨l.toArray⟩ : ByteArray).size = l.length := rfl
  by_cases h : k < l.length
  · rw [dif_pos (by rw [e]; exact h), List.getElem?_eq_getElem h]; rfl
  · rw [dif_neg (by rw [e]; exact h), List.getElem?_eq_none (by omega)]
theorem byteAt_ext (s : ByteArray) (a k : Nat) : byteAt (s.extract a s.size) k = byteAt s (a + k) := by
  unfold byteAt
  by_cases h : a + k < s.size
  · have h2 : k < (s.extract a s.size).size := by simp; omega
    rw [dif_pos h, dif_pos h2]
    congr 2
    rw [ByteArray.getElem_extract]
  · have h2 : ¬ k < (s.extract a s.size).size := by simp; omega
    rw [dif_neg h, dif_neg h2]
theorem u8_of (c : UInt8) (n : Nat) (h : n < 256) : ((c.toNat : Int) = (n : Int)) ↔ c = UInt8.ofNat n := by
  constructor
  · intro e
    apply UInt8.toNat.inj
    rw [UInt8.toNat_ofNat']; omega
  · intro e
    rw [e, UInt8.toNat_ofNat']; omega
theorem hasP1 (t : ByteArray) (c : Nat) (w : World) (hs : t.size ≤ maxLen) (h0 : 0 < c) (h1 : c < 256) :
    Calls Tryz.prog 127 #[.string t, .string ⟨#[UInt8.ofNat c]⟩] w fun e w' => e = .returned (.bool (decide (byteAt t 0 = c))) ∧ w' = w := by
  have h := hasP_any t ⟨#[UInt8.ofNat c]⟩ w hs (by show 1 ≤ 2; omega)
  rw [Lib.hasPrefix_raw] at h
  have e : Lib.hasPrefix t.data.toList (⟨#[UInt8.ofNat c]⟩ : ByteArray).data.toList = decide (byteAt t 0 = c) := by
    rw [← Lib.mk_data t, byteAt_list]
    cases t.data.toList with
    | nil => simp [Lib.hasPrefix]; omega
    | cons x l =>
      have u := u8_of x c h1
      rw [Bool.eq_iff_iff]
      simp [Lib.hasPrefix, List.isPrefixOf, u]
      exact eq_comm
  rw [e] at h; exact h
theorem hasP2 (t : ByteArray) (w : World) (hs : t.size ≤ maxLen) :
    Calls Tryz.prog 127 #[.string t, .string ⟨#[58, 58]⟩] w fun e w' => e = .returned (.bool (decide (byteAt t 0 = 58 ∧ byteAt t 1 = 58))) ∧ w' = w := by
  have h := hasP_any t ⟨#[58, 58]⟩ w hs (by decide)
  rw [Lib.hasPrefix_raw] at h
  have e : Lib.hasPrefix t.data.toList (⟨#[58, 58]⟩ : ByteArray).data.toList = decide (byteAt t 0 = 58 ∧ byteAt t 1 = 58) := by
    rw [← Lib.mk_data t, byteAt_list, byteAt_list]
    cases t.data.toList with
    | nil => simp [Lib.hasPrefix]
    | cons x l =>
      have u := u8_of x 58 (by decide)
      cases l with
      | nil => simp [Lib.hasPrefix, List.isPrefixOf]
      | cons y l =>
        have v := u8_of y 58 (by decide)
        have u' : ((x.toNat : Int) = 58) ↔ x = 58 := u
        have v' : ((y.toNat : Int) = 58) ↔ y = 58 := v
        rw [Bool.eq_iff_iff]
        simp [Lib.hasPrefix, List.isPrefixOf, u', v']
        rw [eq_comm (a := x), eq_comm (a := y)]
  rw [e] at h; exact h
end Go.Proofs.YtpiicdpipjjenaaGreatDoor
namespace Go.Proofs.YtpiicdpipjjenaaGreatDoor
open Go.RowKit
set_option linter.unusedSimpArgs false
set_option linter.unusedVariables false

def decF : Nat → Nat → List UInt8 → List UInt8
  | 0, _, t => t
  | f + 1, m, t => if m = 0 ∧ ¬ t = [] then t else decF f (m / 10) (UInt8.ofNat (48 + m % 10) :: t)
def decL (n : Nat) : List UInt8 := decF 20 n []

theorem one_conv (w : World) (d : Nat) (h : d < 256) :
    (convert 53 9 (.slice (some ⟨w.heap.size, 0, none⟩) 1 1)).run Tryz.prog (w.alloc (.cells #[.int .u8 (d : Int)] 5)) = .ok (.string ⟨#[UInt8.ofNat d]⟩) (w.alloc (.cells #[.int .u8 (d : Int)] 5)) := by
  have := run_convert_bytes_back (P := Tryz.prog) (w.alloc (.cells #[.int .u8 (d : Int)] 5)) 53 9 5 ⟨w.heap.size, 0, none⟩ 1 [UInt8.ofNat d] Tryz.underlying53 Tryz.underlying5 Tryz.underlying9 (by
    intro j hj
    have : j = 0 := by simpa using hj
    subst this
    have e : (UInt8.ofNat d).toNat = d := by rw [UInt8.toNat_ofNat']; omega
    simp [go_sem, Addr.add, e])
  exact this
theorem cat_one (d : UInt8) (t : List UInt8) : ((⟨#[d]⟩ : ByteArray) ++ ⟨t.toArray⟩) = ⟨(d :: t).toArray⟩ := by
  apply ByteArray.ext
  simp
theorem decF_zero (f m : Nat) (t : List UInt8) (h : m = 0 ∧ ¬ t = []) : decF f m t = t := by
  cases f with
  | zero => rfl
  | succ f => exact if_pos h

theorem isEmpty_of (t : List UInt8) (S : ByteArray) (h : S = ⟨t.toArray⟩) : S.toList.isEmpty = t.isEmpty := by
  subst h
  rw [Lib.toList_data]
def sizeOf0 (b : Value) : Nat := match b with | .string s => if s.size = 0 then 1 else 0 | _ => 0

end Go.Proofs.YtpiicdpipjjenaaGreatDoor
