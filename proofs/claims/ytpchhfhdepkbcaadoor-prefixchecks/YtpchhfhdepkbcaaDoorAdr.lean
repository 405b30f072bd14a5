/-
  What the calls of package addr's number, put and part do.
-/
import Derived.Test.YtpchhfhdepkbcaaDoorTxt
import Derived.BigQuiet
namespace Go.Proofs.YtpchhfhdepkbcaaDoor
open Go.RowKit
set_option linter.unusedSimpArgs false
set_option linter.unusedVariables false

/-- The number that a text begins with, from place k on, n being read: the number, and how many digits. -/
def numR (t : ByteArray) : Nat → Nat → Int → Int × Int
  | 0, k, n => (n, k)
  | f + 1, k, n => if 48 ≤ byteAt t k ∧ byteAt t k ≤ 57 then (if 255 < 10 * n + (byteAt t k - 48) then (0, 0) else if 10 * n + (byteAt t k - 48) = 0 then (0, (k : Int) + 1) else numR t f (k + 1) (10 * n + (byteAt t k - 48))) else (n, k)
def numV (t : ByteArray) : Int := (numR t t.size 0 0).1
def numN (t : ByteArray) : Int := (numR t t.size 0 0).2

set_option maxHeartbeats 1000000 in
theorem number_any (t : ByteArray) (w : World) (hs : t.size ≤ maxLen) :
    Calls Tryd.prog 79 #[.string t] w fun e w' => e = .returned (.tuple #[.int .u64 (numV t), .int .i64 (numN t)]) ∧ w' = w := by
  unfold maxLen at hs
  go_enter Tryd.func79, Tryd.ntmps79
  go_wp2
  go_loopw [2, 3] (fun a b wr => ∃ (k : Nat) (n : Int), a = .int .u64 n ∧ b = .int .i64 k ∧ k ≤ t.size ∧ 0 ≤ n ∧ n ≤ 255 ∧ Hid (numR t (t.size - k) k n = numR t t.size 0 0) ∧ wr = w) (fun _ b _ => t.size - (intOf b).toNat)
  case atStart => exact ⟨0, 0, rfl, rfl, by omega, by omega, by omega, rfl, rfl⟩
  case round =>
    obtain ⟨k, n, rfl, rfl, hk, h0, h1, HR, rfl⟩ := hrel
    by_cases hlt : k < t.size
    · have hbt := byteAt_in t k hlt
      have bd := byteAt_bd t k
      have HU : Hid (t.size - k = (t.size - (k + 1)) + 1) := by show _ = _; omega
      have HS : Hid (∀ f, numR t (f + 1) k n = if 48 ≤ byteAt t k ∧ byteAt t k ≤ 57 then (if 255 < 10 * n + (byteAt t k - 48) then (0, 0) else if 10 * n + (byteAt t k - 48) = 0 then (0, (k : Int) + 1) else numR t f (k + 1) (10 * n + (byteAt t k - 48))) else (n, k)) := fun _ => rfl
      generalize byteAt t k = c at *
      have hk2 : (k : Int) < (t.size : Int) := by omega
      by_cases hd : 48 ≤ c ∧ c ≤ 57
      · obtain ⟨d0, d1⟩ := id hd
        by_cases hm : 255 < 10 * n + (c - 48)
        · have HF : Hid (numV t = 0 ∧ numN t = 0) := by
            show _ ∧ _
            unfold numV numN; rw [← HR.out, HU.out, HS.out, if_pos hd, if_pos hm]; exact ⟨rfl, rfl⟩
          clear HS HU HR hd
          go_wp2
          go_ret2
          exact ⟨by rw [HF.out.1, HF.out.2]; rfl, rfl⟩
        · by_cases hz : 10 * n + (c - 48) = 0
          · have HF : Hid (numV t = 0 ∧ numN t = (k : Int) + 1) := by
              show _ ∧ _
              unfold numV numN; rw [← HR.out, HU.out, HS.out, if_pos hd, if_neg hm, if_pos hz]; exact ⟨rfl, rfl⟩
            clear HS HU HR hd
            go_wp2
            go_ret2
            exact ⟨by rw [HF.out.1, HF.out.2]; rfl, rfl⟩
          · have HF : Hid (numR t (t.size - (k + 1)) (k + 1) (10 * n + (c - 48)) = numR t t.size 0 0) := by
              show _ = _
              rw [← HR.out, HU.out, HS.out, if_pos hd, if_neg hm, if_neg hz]
            clear HS HU HR hd
            go_wp2
            go_roundw
            case rel => exact ⟨k + 1, 10 * n + (c - 48), rfl, by go_num, by omega, by omega, by omega, HF, trivial⟩
            case measure => simp [intOf]; omega
      · have HF : Hid (numV t = n ∧ numN t = (k : Int)) := by
          show _ ∧ _
          unfold numV numN; rw [← HR.out, HU.out, HS.out, if_neg hd]; exact ⟨rfl, rfl⟩
        clear HS HU HR
        by_cases d0 : 48 ≤ c
        · have d1 : ¬ c ≤ 57 := by omega
          go_wp2
          go_ret2
          exact ⟨by rw [HF.out.1, HF.out.2]; rfl, rfl⟩
        · go_wp2
          go_ret2
          exact ⟨by rw [HF.out.1, HF.out.2]; rfl, rfl⟩
    · have HF : Hid (numV t = n ∧ numN t = (k : Int)) := by
        show _ ∧ _
        have e : t.size - k = 0 := by omega
        unfold numV numN; rw [← HR.out, e]; exact ⟨rfl, rfl⟩
      clear HR
      go_wp2
      go_ret2
      exact ⟨by rw [HF.out.1, HF.out.2]; rfl, rfl⟩

/-- A number laid into a part of a word. -/
def layW (x : BitVec 128) (i b v : Int) : BitVec 128 := x ||| (mkW 0 v <<< (128 - b * (i + 1)).toNat)
theorem shlK (v n : Int) (w : World) (h0 : 0 ≤ v) (h1 : v < 18446744073709551616) :
    Calls Tryd.prog 95 #[.agg #[.int .u64 0, .int .u64 v], .int .i64 n] w fun e w' => e = .returned (.agg #[.int .u64 (hI (mkW 0 v <<< n.toNat)), .int .u64 (lI (mkW 0 v <<< n.toNat))]) ∧ Below w.heap.size w w' := by
  have h := shl_any (mkW 0 v) n w
  rw [show hI (mkW 0 v) = 0 from hI_mk 0 v (by omega) (by omega), show lI (mkW 0 v) = v from lI_mk 0 v h0 h1] at h
  exact h

set_option maxHeartbeats 1000000 in
theorem aput_any (x : BitVec 128) (i b v : Int) (w : World) (h0 : 0 ≤ v) (h1 : v < 18446744073709551616) (i0 : 0 ≤ i) (i1 : i ≤ 16) (b0 : 0 ≤ b) (b1 : b ≤ 16) :
    Calls Tryd.prog 80 #[.agg #[.int .u64 (hI x), .int .u64 (lI x)], .int .i64 i, .int .i64 b, .int .u64 v] w fun e w' => e = .returned (.agg #[.int .u64 (hI (layW x i b v)), .int .u64 (lI (layW x i b v))]) ∧ Below w.heap.size w w' := by
  have KS := fun n w => shlK v n w h0 h1
  have hu1 : IntKind.i64.wrap (i + 1) = i + 1 := by rw [IntKind.wrap_i64]; omega
  have hm0 : 0 ≤ b * (i + 1) := Int.mul_nonneg b0 (by omega)
  have hm1 : b * (i + 1) ≤ 16 * 17 := Int.mul_le_mul b1 (by omega) (by omega) (by omega)
  have hu2 : IntKind.i64.wrap (b * (i + 1)) = b * (i + 1) := by rw [IntKind.wrap_i64]; omega
  have hu3 : IntKind.i64.wrap (128 - b * (i + 1)) = 128 - b * (i + 1) := by rw [IntKind.wrap_i64]; omega
  have hbl := fun o p => (bl2 w o p).drew
  go_enter Tryd.func80, Tryd.ntmps80
  go_wp2
  go_region_held3 (fun w' => w'.cell? ⟨w.heap.size, 0, none⟩ = some (.int .u64 (hI x)) ∧ w'.cell? ⟨w.heap.size, 1, none⟩ = some (.int .u64 (lI x)) ∧ w'.cell? ⟨w.heap.size + 1, 0, none⟩ = some (cv w' (w.heap.size + 1) 0) ∧ w'.cell? ⟨w.heap.size + 1, 1, none⟩ = some (cv w' (w.heap.size + 1) 1) ∧ w'.frozen? ⟨w.heap.size + 1, 0, none⟩ = false ∧ w'.frozen? ⟨w.heap.size + 1, 1, none⟩ = false ∧ Below w.heap.size w w')
    (first
      | (obtain ⟨k1, k2, k5, k6, k7, k8, k9⟩ := ‹_ ∧ _›; exact ⟨keepc hb2 k1, keepc hb2 k2, cv_of (keepc hb2 k5), cv_of (keepc hb2 k6), keepf hb2 k5 k7, keepf hb2 k6 k8, keepb hb2 k9⟩)
      | (obtain ⟨k1, k2, k5, k6, k7, k8, k9⟩ := ‹_ ∧ _›; exact ⟨keepc hb1 k1, keepc hb1 k2, cv_of (keepc hb1 k5), cv_of (keepc hb1 k6), keepf hb1 k5 k7, keepf hb1 k6 k8, keepb hb1 k9⟩)
      | (refine ⟨?_, ?_, cv_new ?_, cv_new ?_, ?_, ?_, ?_⟩ <;> first | (simp [go_sem, *]; done) | exact Below.setCell (Below.setCell (by simp [*]) (by simp) _) (by simp) _))
    (first | (go_at_call 95; refine (KS _ _).mono ?_; rintro e w1 ⟨rfl, hb1⟩) | (go_at_call 64; refine (or_any _ _ _).mono ?_; rintro e w2 ⟨rfl, hb2⟩))
  obtain ⟨-, -, -, -, -, -, kB⟩ := ‹_ ∧ _›
  have e0 : w2.cell? ⟨w.heap.size + 1, 0, none⟩ = some (.int .u64 0) := keepc hb2 (keepc hb1 (by simp [go_sem]))
  have e1 : w2.cell? ⟨w.heap.size + 1, 1, none⟩ = some (.int .u64 0) := keepc hb2 (keepc hb1 (by simp [go_sem]))
  go_wp2
  exact bodyPost_ret (v := .agg #[.int .u64 (hI (layW x i b v)), .int .u64 (lI (layW x i b v))]) (by simp [results, Tryd.results80, go_sem, e0, e1, layW]) rfl ⟨rfl, kB⟩

set_option maxHeartbeats 1000000 in
theorem part_any (x : BitVec 128) (i b : Int) (w : World) (i0 : 0 ≤ i) (i1 : i ≤ 16) (b0 : 0 ≤ b) (b1 : b * i ≤ 128 - b) :
    Calls Tryd.prog 73 #[.agg #[.int .u64 (hI x), .int .u64 (lI x)], .int .i64 i, .int .i64 b] w fun e w' => e = .returned (.int .u64 (lI ((x <<< (b * i).toNat) >>> (128 - b).toNat))) ∧ Below w.heap.size w w' := by
  have hm0 : 0 ≤ b * i := Int.mul_nonneg b0 i0
  have hu2 : IntKind.i64.wrap (b * i) = b * i := by rw [IntKind.wrap_i64]; omega
  have KF := fun w => field_in x (b * i) b w hm0 (by omega) b0 (by omega)
  go_enter Tryd.func73, Tryd.ntmps73
  go_wp2_with fail
  refine (KF _).mono ?_
  rintro e w1 ⟨rfl, hb1⟩
  have kB : Below w.heap.size w w1 := keepb hb1 (bl1 _ _)
  clear hb1 KF
  go_wp2
  go_ret
  exact ⟨rfl, kB.alloc (by have := kB.size; omega) _⟩
end Go.Proofs.YtpchhfhdepkbcaaDoor
