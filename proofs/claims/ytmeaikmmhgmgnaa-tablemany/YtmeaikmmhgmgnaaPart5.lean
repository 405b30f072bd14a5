/-
  Part 5 of the proof: 16 texts, one behind the other.
-/
import Derived.Test.YtmeaikmmhgmgnaaPart4
import Derived.Test.YtmeaikmmhgmgnaaPart3
import Derived.Deep.AppendLies
import Derived.OwnWalk
import Derived.Laws.OwnMore
import Derived.Deep.Onto
import Derived.Test.YtmeaikmmhgmgnaaPart2
import Derived.Test.YtmeaikmmhgmgnaaShelf
import Derived.Shelf.Strings.Search1
import Derived.Test.YtmeaikmmhgmgnaaPart1
import Derived.Laws.AppendOwnNone
/-
  What the calls of package addr's answer and Parse and of law 2's known do.
-/
namespace Go.Proofs.Ytmeaikmmhgmgnaa
open Go.RowKit
set_option linter.unusedSimpArgs false
set_option linter.unusedVariables false

theorem answer_any (x : BitVec 128) (b : Bool) (w : World) :
    Calls Try.prog 84 #[.agg #[.int .u64 (hI x), .int .u64 (lI x)], .bool b] w fun e w' => e = .returned (.tuple #[.agg #[.int .u64 (hI (if b = true then x else 0#128)), .int .u64 (lI (if b = true then x else 0#128))], .int .i64 (if b = true then 0 else 12)]) ∧ Below w.heap.size w w' := by
  cases b
  · rw [if_neg (by simp), if_neg (by simp), hI_zero, lI_zero]
    go_enter Try.func84, Try.ntmps84
    go_wp2
    exact bodyPost_ret (v := .tuple #[.agg #[.int .u64 0, .int .u64 0], .int .i64 12]) (by simp [results, Try.results84, go_sem]) rfl ⟨rfl, bl2 _ _ _⟩
  · rw [if_pos rfl, if_pos rfl]
    go_enter Try.func84, Try.ntmps84
    go_wp2
    exact bodyPost_ret (v := .tuple #[.agg #[.int .u64 (hI x), .int .u64 (lI x)], .int .i64 0]) (by simp [results, Try.results84, go_sem]) rfl ⟨rfl, bl2 _ _ _⟩

/-- What Parse tells of a text. -/
def apV (F : Int) (s : ByteArray) : BitVec 128 := if F = 32 then (if fourB s = true then fourV s else 0#128) else if F = 128 then (if (six0 s).2 = true then (six0 s).1 else 0#128) else 0#128
def apE (F : Int) (s : ByteArray) : Int := if F = 32 then (if fourB s = true then 0 else 12) else if F = 128 then (if (six0 s).2 = true then 0 else 12) else 11

set_option maxHeartbeats 2000000 in
theorem aparse_any (F : Int) (s : ByteArray) (w : World) (hs : s.size ≤ maxLen) :
    Calls Try.prog 76 #[.int .i64 F, .string s] w fun e w' => e = .returned (.tuple #[.agg #[.int .u64 (hI (apV F s)), .int .u64 (lI (apV F s))], .int .i64 (apE F s)]) ∧ Below w.heap.size w w' := by
  unfold apV apE
  by_cases h32 : F = 32
  · rw [if_pos h32, if_pos h32]
    have KR := fun w => readFour_any s w hs
    have KA := fun w => answer_any (fourV s) (fourB s) w
    revert KA
    generalize (if fourB s = true then fourV s else 0#128) = x
    generalize (if fourB s = true then (0 : Int) else 12) = r
    intro KA
    generalize fourV s = y at *
    generalize fourB s = b at *
    subst h32
    go_enter Try.func76, Try.ntmps76
    go_wp2_with fail
    refine (KR _).mono ?_
    rintro e w1 ⟨rfl, hb1⟩
    go_wp2_with fail
    refine (KA _).mono ?_
    rintro e w2 ⟨rfl, hb2⟩
    have hZ := ((at_new w w.heap.size 0#128 36 rfl).below hb1).below hb2
    have kB := keepb hb2 (keepb hb1 (bl1 w _))
    obtain ⟨z0, z1, z2, z3, z4⟩ := hZ
    clear hb1 hb2 KR KA
    go_wp2
    exact bodyPost_ret (v := .tuple #[.agg #[.int .u64 (hI x), .int .u64 (lI x)], .int .i64 r]) (by simp [results, Try.results76, go_sem, *]) rfl ⟨rfl, bset2 kB (Nat.le_refl _) _ _⟩
  rw [if_neg h32, if_neg h32]
  by_cases h128 : F = 128
  · rw [if_pos h128, if_pos h128]
    have KR := fun w => readSix_any s w hs
    have KA := fun w => answer_any (six0 s).1 (six0 s).2 w
    revert KA
    generalize (if (six0 s).2 = true then (six0 s).1 else 0#128) = x
    generalize (if (six0 s).2 = true then (0 : Int) else 12) = r
    intro KA
    generalize (six0 s).1 = y at *
    generalize (six0 s).2 = b at *
    clear h32
    subst h128
    go_enter Try.func76, Try.ntmps76
    go_wp2_with fail
    refine (KR _).mono ?_
    rintro e w1 ⟨rfl, hb1⟩
    go_wp2_with fail
    refine (KA _).mono ?_
    rintro e w2 ⟨rfl, hb2⟩
    have hZ := ((at_new w w.heap.size 0#128 36 rfl).below hb1).below hb2
    have kB := keepb hb2 (keepb hb1 (bl1 w _))
    obtain ⟨z0, z1, z2, z3, z4⟩ := hZ
    clear hb1 hb2 KR KA
    go_wp2
    exact bodyPost_ret (v := .tuple #[.agg #[.int .u64 (hI x), .int .u64 (lI x)], .int .i64 r]) (by simp [results, Try.results76, go_sem, *]) rfl ⟨rfl, bset2 kB (Nat.le_refl _) _ _⟩
  · rw [if_neg h128, if_neg h128, hI_zero, lI_zero]
    have b1 : (F == 32) = false := by simp [h32]
    have b2 : (F == 128) = false := by simp [h128]
    go_enter Try.func76, Try.ntmps76
    go_wp2
    exact bodyPost_ret (v := .tuple #[.agg #[.int .u64 0, .int .u64 0], .int .i64 11]) (by simp [results, Try.results76, go_sem, *]) rfl ⟨rfl, bl1 _ _⟩

end Go.Proofs.Ytmeaikmmhgmgnaa
/-
  What the calls of turnpikeref2's octet, group and gap do.
-/
namespace Go.Proofs.Ytmeaikmmhgmgnaa
open Go.RowKit
set_option linter.unusedSimpArgs false
set_option linter.unusedVariables false

end Go.Proofs.Ytmeaikmmhgmgnaa
/-
  What the call of turnpikeref2's split does.
-/
namespace Go.Proofs.Ytmeaikmmhgmgnaa
open Go.RowKit
set_option linter.unusedSimpArgs false
set_option linter.unusedVariables false

end Go.Proofs.Ytmeaikmmhgmgnaa
/-
  What the call of turnpikeref2's dotted does.
-/
namespace Go.Proofs.Ytmeaikmmhgmgnaa
open Go.RowKit
set_option linter.unusedSimpArgs false
set_option linter.unusedVariables false

end Go.Proofs.Ytmeaikmmhgmgnaa
/-
  What the call of turnpikeref2's groups does.
-/
namespace Go.Proofs.Ytmeaikmmhgmgnaa
open Go.RowKit
set_option linter.unusedSimpArgs false
set_option linter.unusedVariables false

theorem empty_is (t : ByteArray) : t.toList.isEmpty = decide (t.size = 0) := by
  rw [Lib.toList_data, Lib.size_eq]
  cases t.data.toList <;> simp

end Go.Proofs.Ytmeaikmmhgmgnaa
/-
  What the calls of strings.Cut at one byte, and of package prefix's length, do.
-/
namespace Go.Proofs.Ytmeaikmmhgmgnaa
open Go.RowKit
set_option linter.unusedSimpArgs false
set_option linter.unusedVariables false

/-- Where the first slash is, -1 if there is none. -/
def ixS (s : ByteArray) : Int := Lib.indexByte s.data.toList 47
theorem indexByte_bd (c : UInt8) : ∀ l : List UInt8, Lib.indexByte l c = -1 ∨ (0 ≤ Lib.indexByte l c ∧ Lib.indexByte l c < l.length) := by
  intro l
  induction l with
  | nil => exact Or.inl rfl
  | cons b l ih =>
    unfold Lib.indexByte
    by_cases h : (b == c) = true
    · rw [if_pos h]; right; simp
    · rw [if_neg h]
      by_cases h1 : (Lib.indexByte l c == -1) = true
      · rw [if_pos h1]; left; rfl
      · rw [if_neg h1]
        rcases ih with e | e
        · simp [e] at h1
        · right; simp; omega
theorem ixS_bd (s : ByteArray) : ixS s = -1 ∨ (0 ≤ ixS s ∧ ixS s < s.size) := indexByte_bd 47 s.data.toList
theorem ixB_any (s : ByteArray) (w : World) :
    Calls Try.prog 78 #[.string s, .int .u8 47] w fun e w' => e = .returned (.int .i64 (ixS s)) ∧ w' = w :=
  Any.stringslite_IndexByte Try.lays217 s 47 w

def slash : ByteArray := ⟨#[47]⟩
set_option maxHeartbeats 1000000 in
set_option maxRecDepth 20000 in
theorem index1_any (s : ByteArray) (w : World) :
    Calls Try.prog 90 #[.string s, .string ⟨#[47]⟩] w fun e w' => e = .returned (.int .i64 (ixS s)) ∧ w' = w := by
  have KI := fun w => ixB_any s w
  cases hb : ([47] == s.toList)
  · go_enter Try.func90, Try.ntmps90
    go_wp2_with fail
    refine (KI _).mono ?_
    rintro e w1 ⟨rfl, rfl⟩
    go_wp2
    go_ret
    exact ⟨rfl, rfl⟩
  · have h : s = ⟨#[47]⟩ := by
      have h1 := eq_of_beq hb
      apply ByteArray.ext
      apply Array.ext'
      rw [ByteArray.toList_eq] at h1
      exact h1.symm
    subst h
    have hv : ixS ⟨#[47]⟩ = 0 := by decide
    rw [hv]
    clear hb KI hv
    go_enter Try.func90, Try.ntmps90
    go_wp2
    go_ret
    exact ⟨rfl, rfl⟩

theorem bdrewN {n : Nat} {w W : World} (h : Below n w W) (k : Nat) : Below n w (W.drewN k) := ⟨h.os, h.tape, h.output, h.size, h.block⟩
def headS (s : ByteArray) : ByteArray := if ixS s = -1 then s else s.extract 0 (ixS s).toNat
def tailS (s : ByteArray) : ByteArray := if ixS s = -1 then ⟨#[]⟩ else s.extract ((ixS s).toNat + 1) s.size
set_option maxHeartbeats 1000000 in
theorem lcut_any (s : ByteArray) (w : World) (hs : s.size ≤ maxLen) :
    Calls Try.prog 83 #[.string s, .string ⟨#[47]⟩] w fun e w' => e = .returned (.tuple #[.string (headS s), .string (tailS s), .bool (decide (ixS s ≠ -1))]) ∧ Below w.heap.size w w' := by
  have KI := fun w => index1_any s w
  have bd := ixS_bd s
  unfold maxLen at hs
  unfold headS tailS
  generalize ixS s = i at *
  by_cases h : i = -1
  · subst h
    rw [if_pos rfl, if_pos rfl]
    go_enter Try.func83, Try.ntmps83
    go_wp2_with fail
    refine (KI _).mono ?_
    rintro e w1 ⟨rfl, rfl⟩
    go_wp2
    exact bodyPost_ret (v := .tuple #[.string s, .string ⟨#[]⟩, .bool false]) (by simp [results, Try.results83, go_sem]) rfl ⟨by simp, Below.refl _ _⟩
  · obtain ⟨k, rfl⟩ : ∃ k : Nat, i = k := ⟨i.toNat, by omega⟩
    rw [if_neg h, if_neg h]
    have hk : k < s.size := by omega
    have hu : IntKind.i64.wrap ((k : Int) + 1) = (k : Int) + 1 := by rw [IntKind.wrap_i64]; omega
    have hk0 : (0 : Int) ≤ (k : Int) := by omega
    have hk1 : (k : Int) ≤ (s.size : Int) := by omega
    have hk2 : (k : Int) + 1 ≤ (s.size : Int) := by omega
    have hk3 : (0 : Int) ≤ (k : Int) + 1 := by omega
    have ht : ((k : Int) + 1).toNat = k + 1 := by omega
    go_enter Try.func83, Try.ntmps83
    go_wp2_with fail
    refine (KI _).mono ?_
    rintro e w1 ⟨rfl, rfl⟩
    go_wp2
    go_quiet (fail)
    go_wp2
    exact bodyPost_ret (v := .tuple #[.string (s.extract 0 k), .string (s.extract (k + 1) s.size), .bool true]) (by simp [results, Try.results83, go_sem]) rfl ⟨by simp, bdrewN (Below.refl _ _) _⟩
theorem scut_any (s : ByteArray) (w : World) (hs : s.size ≤ maxLen) :
    Calls Try.prog 75 #[.string s, .string ⟨#[47]⟩] w fun e w' => e = .returned (.tuple #[.string (headS s), .string (tailS s), .bool (decide (ixS s ≠ -1))]) ∧ Below w.heap.size w w' := by
  go_enter Try.func75, Try.ntmps75
  go_wp2_with fail
  refine (lcut_any s _ hs).mono ?_
  rintro e w1 ⟨rfl, hb1⟩
  go_wp2
  exact bodyPost_ret (v := .tuple #[.string (headS s), .string (tailS s), .bool (decide (ixS s ≠ -1))]) (by simp [results, Try.results75, go_sem]) rfl ⟨rfl, hb1⟩

/-- A prefix's length, read: from place k on, n being read. -/
def lenR (t : ByteArray) : Nat → Nat → Int → Option Int
  | 0, _, n => some n
  | f + 1, k, n => if byteAt t k < 48 ∨ 57 < byteAt t k then none else lenR t f (k + 1) (10 * n + (byteAt t k - 48))
def lenO (t : ByteArray) : Option Int := if t.size = 0 ∨ 3 < t.size ∨ (byteAt t 0 = 48 ∧ 1 < t.size) then none else lenR t t.size 0 0
def lenV (t : ByteArray) : Int := (lenO t).getD 0
def lenB (t : ByteArray) : Bool := (lenO t).isSome
set_option maxHeartbeats 1000000 in
theorem plength_any (t : ByteArray) (w : World) (hs : t.size ≤ maxLen) :
    Calls Try.prog 77 #[.string t] w fun e w' => e = .returned (.tuple #[.int .i64 (lenV t), .bool (lenB t)]) ∧ w' = w := by
  unfold maxLen at hs
  by_cases hz : t.size = 0
  · have he : t.toList.isEmpty = true := by rw [empty_is]; simp [hz]
    have HF : Hid (lenV t = 0 ∧ lenB t = false) := by
      show _ ∧ _
      unfold lenV lenB lenO; rw [if_pos (Or.inl hz)]; exact ⟨rfl, rfl⟩
    go_enter Try.func77, Try.ntmps77
    go_wp2
    go_ret2
    exact ⟨by rw [HF.out.1, HF.out.2]; rfl, rfl⟩
  have he : t.toList.isEmpty = false := by rw [empty_is]; simp [hz]
  by_cases h3 : (3 : Int) < (t.size : Int)
  · have HF : Hid (lenV t = 0 ∧ lenB t = false) := by
      show _ ∧ _
      unfold lenV lenB lenO; rw [if_pos (Or.inr (Or.inl (by omega)))]; exact ⟨rfl, rfl⟩
    go_enter Try.func77, Try.ntmps77
    go_wp2
    go_ret2
    exact ⟨by rw [HF.out.1, HF.out.2]; rfl, rfl⟩
  have hpos : 0 < t.size := by omega
  have hb0 := byteAt_in t 0 hpos
  by_cases h0 : byteAt t 0 = 48 ∧ 1 < t.size
  · have HF : Hid (lenV t = 0 ∧ lenB t = false) := by
      show _ ∧ _
      unfold lenV lenB lenO; rw [if_pos (Or.inr (Or.inr h0))]; exact ⟨rfl, rfl⟩
    obtain ⟨q1, q2⟩ := h0
    have q2' : (1 : Int) < (t.size : Int) := by omega
    have qb : (byteAt t 0 == 48) = true := by simp [q1]
    generalize byteAt t 0 = c at *
    clear q1
    go_enter Try.func77, Try.ntmps77
    go_wp2
    go_ret2
    exact ⟨by rw [HF.out.1, HF.out.2]; rfl, rfl⟩
  have HO : Hid (lenO t = lenR t t.size 0 0) := by
    show _ = _
    unfold lenO; rw [if_neg]
    rintro (q | q | q)
    · exact hz q
    · omega
    · exact h0 q
  have hq : ((byteAt t 0 == 48) = false) ∨ ((byteAt t 0 == 48) = true ∧ ¬ (1 : Int) < (t.size : Int)) := by
    by_cases q : byteAt t 0 = 48
    · right; exact ⟨by simp [q], by omega⟩
    · left; simp [q]
  have ht3 : (t.size : Int) ≤ 3 := by omega
  clear h0
  rcases hq with qb | ⟨qb, q2⟩
  all_goals
    go_enter Try.func77, Try.ntmps77
    go_wp2
    go_loopw [4, 25] (fun a b wr => ∃ (k : Nat) (n : Int), a = .int .i64 n ∧ b = .int .i64 k ∧ k ≤ t.size ∧ 0 ≤ n ∧ n ≤ 999 ∧ Hid ((k = 0 ∧ n = 0) ∨ (k = 1 ∧ n ≤ 9) ∨ (k = 2 ∧ n ≤ 99) ∨ (k = 3 ∧ n ≤ 999)) ∧ Hid (lenR t (t.size - k) k n = lenR t t.size 0 0) ∧ wr = w) (fun _ b _ => t.size - (intOf b).toNat)
    case atStart => exact ⟨0, 0, rfl, rfl, by omega, by omega, by omega, Or.inl ⟨rfl, rfl⟩, rfl, rfl⟩
    case round =>
      obtain ⟨k, n, rfl, rfl, hk, g0, g1, HB, HR, rfl⟩ := hrel
      clear qb hb0 he
      by_cases hlt : k < t.size
      · have hbt := byteAt_in t k hlt
        have bd := byteAt_bd t k
        have HU : Hid (t.size - k = (t.size - (k + 1)) + 1) := by show _ = _; omega
        have HS : Hid (∀ f, lenR t (f + 1) k n = if byteAt t k < 48 ∨ 57 < byteAt t k then none else lenR t f (k + 1) (10 * n + (byteAt t k - 48))) := fun f => rfl
        generalize byteAt t k = c at *
        have hk2 : (k : Int) < (t.size : Int) := by omega
        by_cases d0 : c < 48
        · have HF : Hid (lenV t = 0 ∧ lenB t = false) := by
            show _ ∧ _
            unfold lenV lenB; rw [HO.out, ← HR.out, HU.out, HS.out, if_pos (Or.inl d0)]; exact ⟨rfl, rfl⟩
          clear HS HU HR HO
          go_wp2
          go_ret2
          exact ⟨by rw [HF.out.1, HF.out.2]; rfl, rfl⟩
        by_cases d1 : 57 < c
        · have HF : Hid (lenV t = 0 ∧ lenB t = false) := by
            show _ ∧ _
            unfold lenV lenB; rw [HO.out, ← HR.out, HU.out, HS.out, if_pos (Or.inr d1)]; exact ⟨rfl, rfl⟩
          clear HS HU HR HO
          go_wp2
          go_ret2
          exact ⟨by rw [HF.out.1, HF.out.2]; rfl, rfl⟩
        · have HF : Hid (lenR t (t.size - (k + 1)) (k + 1) (10 * n + (c - 48)) = lenR t t.size 0 0) := by
            show _ = _
            rw [← HR.out, HU.out, HS.out, if_neg (by omega)]
          have hn : 10 * n + (c - 48) ≤ 999 ∧ 0 ≤ 10 * n + (c - 48) := by
            have := HB.out
            omega
          have HB2 : Hid ((k + 1 = 0 ∧ 10 * n + (c - 48) = 0) ∨ (k + 1 = 1 ∧ 10 * n + (c - 48) ≤ 9) ∨ (k + 1 = 2 ∧ 10 * n + (c - 48) ≤ 99) ∨ (k + 1 = 3 ∧ 10 * n + (c - 48) ≤ 999)) := by
            have := HB.out
            show _ ∨ _
            omega
          have u1 : IntKind.u8.wrap (c - 48) = c - 48 := by simp [IntKind.wrap, IntKind.bits, IntKind.signed]; omega
          obtain ⟨hn1, hn2⟩ := hn
          clear HS HU HR HO HB
          go_wp2
          go_roundw
          case rel => exact ⟨k + 1, 10 * n + (c - 48), rfl, by go_num, by omega, hn2, hn1, HB2, HF, trivial⟩
          case measure => simp [intOf]; omega
      · have HF : Hid (lenV t = n ∧ lenB t = true) := by
          show _ ∧ _
          have e : t.size - k = 0 := by omega
          unfold lenV lenB; rw [HO.out, ← HR.out, e]; exact ⟨rfl, rfl⟩
        have hk2 : ¬ (k : Int) < (t.size : Int) := by omega
        clear HR HO HB
        go_wp2
        go_ret2
        exact ⟨by rw [HF.out.1, HF.out.2]; rfl, rfl⟩

def ppE (F : Int) (s : ByteArray) : Int := if apE F (headS s) = 0 then (if lenB (tailS s) = true then checkE F (apV F (headS s)) (lenV (tailS s)) else 12) else apE F (headS s)
def ppV (F : Int) (s : ByteArray) : BitVec 128 := if ppE F s = 0 then apV F (headS s) else 0#128
def ppN (F : Int) (s : ByteArray) : Int := if ppE F s = 0 then lenV (tailS s) else 0
theorem ext_le (s : ByteArray) (a b : Nat) : (s.extract a b).size ≤ s.size := by rw [ByteArray.size_extract]; omega
theorem headS_le (s : ByteArray) : (headS s).size ≤ s.size := by
  unfold headS; split
  · exact Nat.le_refl _
  · exact ext_le _ _ _
theorem tailS_le (s : ByteArray) : (tailS s).size ≤ s.size := by
  unfold tailS; split
  · exact Nat.zero_le _
  · exact ext_le _ _ _
set_option maxHeartbeats 2000000 in
theorem pparse_any (F : Int) (s : ByteArray) (w : World) (hs : s.size ≤ maxLen) :
    Calls Try.prog 65 #[.int .i64 F, .string s] w fun e w' => e = .returned (.tuple #[.agg #[.int .u64 (hI (ppV F s)), .int .u64 (lI (ppV F s)), .int .i64 (ppN F s)], .int .i64 (ppE F s)]) ∧ Below w.heap.size w w' := by
  have KU := fun w => scut_any s w hs
  have KA := fun w => aparse_any F (headS s) w (Nat.le_trans (headS_le s) hs)
  have KL := fun w => plength_any (tailS s) w (Nat.le_trans (tailS_le s) hs)
  have KC := fun w => pcheck_any F (apV F (headS s)) (lenV (tailS s)) w
  unfold ppV ppN ppE
  generalize checkE F (apV F (headS s)) (lenV (tailS s)) = c at *
  generalize apE F (headS s) = e0 at *
  generalize apV F (headS s) = x at *
  generalize lenV (tailS s) = n at *
  generalize lenB (tailS s) = b at *
  generalize headS s = h at *
  generalize tailS s = t at *
  generalize decide (ixS s ≠ -1) = i at *
  by_cases h0 : e0 = 0
  · subst h0
    rw [if_pos rfl]
    cases b
    · rw [if_neg (show ¬ (false = true) by decide), if_neg (show ¬ ((12 : Int) = 0) by decide), if_neg (show ¬ ((12 : Int) = 0) by decide), hI_zero, lI_zero]
      go_enter Try.func65, Try.ntmps65
      go_wp2_with fail
      refine (KU _).mono ?_
      rintro e w1 ⟨rfl, hb1⟩
      have Z1 := (atp_new w w.heap.size 0#128 0 38 rfl).below hb1
      have kB1 := keepb hb1 (bl1 w _)
      clear hb1 KU
      go_wp2_with fail
      refine (KA _).mono ?_
      rintro e w2 ⟨rfl, hb2⟩
      have Z2 := (Z1.below hb2).below (bl1 _ (.cells #[.int .u64 (hI x), .int .u64 (lI x)] 36))
      have kB2 := (keepb hb2 kB1).alloc (keepb hb2 kB1).size (.cells #[.int .u64 (hI x), .int .u64 (lI x)] 36)
      clear hb2 KA Z1 kB1
      go_wp2_with fail
      refine (KL _).mono ?_
      rintro e w3 ⟨rfl, rfl⟩
      obtain ⟨z0, z1, z2, z3, z4, z5⟩ := Z2
      clear KL
      go_wp2
      exact bodyPost_ret (v := .tuple #[.agg #[.int .u64 0, .int .u64 0, .int .i64 0], .int .i64 12]) (by simp [results, Try.results65, go_sem, *]) rfl ⟨rfl, bset3 kB2 (Nat.le_refl _) _ _ _⟩
    · rw [if_pos rfl]
      by_cases hc : c = 0
      · subst hc
        rw [if_pos rfl, if_pos rfl]
        go_enter Try.func65, Try.ntmps65
        go_wp2_with fail
        refine (KU _).mono ?_
        rintro e w1 ⟨rfl, hb1⟩
        have Z1 := (atp_new w w.heap.size 0#128 0 38 rfl).below hb1
        have kB1 := keepb hb1 (bl1 w _)
        clear hb1 KU
        go_wp2_with fail
        refine (KA _).mono ?_
        rintro e w2 ⟨rfl, hb2⟩
        have Z2 := (Z1.below hb2).below (bl1 _ (.cells #[.int .u64 (hI x), .int .u64 (lI x)] 36))
        have kB2 := (keepb hb2 kB1).alloc (keepb hb2 kB1).size (.cells #[.int .u64 (hI x), .int .u64 (lI x)] 36)
        clear hb2 KA Z1 kB1
        go_wp2_with fail
        refine (KL _).mono ?_
        rintro e w3 ⟨rfl, rfl⟩
        clear KL
        have Z3 := Z2.below (bl1 _ (.cells #[.int .u64 (hI x), .int .u64 (lI x), .int .i64 n] 38))
        have C3 := atp_new (w2.alloc (.cells #[.int .u64 (hI x), .int .u64 (lI x)] 36)) (w2.heap.size + 1) x n 38 (by simp)
        have kB3 := kB2.alloc kB2.size (.cells #[.int .u64 (hI x), .int .u64 (lI x), .int .i64 n] 38)
        clear Z2 kB2
        go_wp2_with fail
        refine (KC _).mono ?_
        rintro e w4 ⟨rfl, hb4⟩
        obtain ⟨z0, z1, z2, z3, z4, z5⟩ := Z3.below hb4
        obtain ⟨c0, c1, c2, -, -, -⟩ := C3.below hb4
        have kB4 := keepb hb4 kB3
        clear KC Z3 C3 kB3 hb4
        go_wp2
        exact bodyPost_ret (v := .tuple #[.agg #[.int .u64 (hI x), .int .u64 (lI x), .int .i64 n], .int .i64 0]) (by simp [results, Try.results65, go_sem, *]) rfl ⟨rfl, bset3 kB4 (Nat.le_refl _) _ _ _⟩
      · have hcb : (c != 0) = true := by simp [hc]
        rw [if_neg hc, if_neg hc, hI_zero, lI_zero]
        go_enter Try.func65, Try.ntmps65
        go_wp2_with fail
        refine (KU _).mono ?_
        rintro e w1 ⟨rfl, hb1⟩
        have Z1 := (atp_new w w.heap.size 0#128 0 38 rfl).below hb1
        have kB1 := keepb hb1 (bl1 w _)
        clear hb1 KU
        go_wp2_with fail
        refine (KA _).mono ?_
        rintro e w2 ⟨rfl, hb2⟩
        have Z2 := (Z1.below hb2).below (bl1 _ (.cells #[.int .u64 (hI x), .int .u64 (lI x)] 36))
        have kB2 := (keepb hb2 kB1).alloc (keepb hb2 kB1).size (.cells #[.int .u64 (hI x), .int .u64 (lI x)] 36)
        clear hb2 KA Z1 kB1
        go_wp2_with fail
        refine (KL _).mono ?_
        rintro e w3 ⟨rfl, rfl⟩
        clear KL
        have Z3 := Z2.below (bl1 _ (.cells #[.int .u64 (hI x), .int .u64 (lI x), .int .i64 n] 38))
        have C3 := atp_new (w2.alloc (.cells #[.int .u64 (hI x), .int .u64 (lI x)] 36)) (w2.heap.size + 1) x n 38 (by simp)
        have kB3 := kB2.alloc kB2.size (.cells #[.int .u64 (hI x), .int .u64 (lI x), .int .i64 n] 38)
        clear Z2 kB2
        go_wp2_with fail
        refine (KC _).mono ?_
        rintro e w4 ⟨rfl, hb4⟩
        obtain ⟨z0, z1, z2, z3, z4, z5⟩ := Z3.below hb4
        have kB4 := keepb hb4 kB3
        clear KC Z3 C3 kB3 hb4
        go_wp2
        exact bodyPost_ret (v := .tuple #[.agg #[.int .u64 0, .int .u64 0, .int .i64 0], .int .i64 c]) (by simp [results, Try.results65, go_sem, *]) rfl ⟨rfl, bset3 kB4 (Nat.le_refl _) _ _ _⟩
  · have hb : (e0 != 0) = true := by simp [h0]
    rw [if_neg h0, if_neg h0, if_neg h0, hI_zero, lI_zero]
    go_enter Try.func65, Try.ntmps65
    go_wp2_with fail
    refine (KU _).mono ?_
    rintro e w1 ⟨rfl, hb1⟩
    have Z1 := (atp_new w w.heap.size 0#128 0 38 rfl).below hb1
    have kB1 := keepb hb1 (bl1 w _)
    clear hb1 KU
    go_wp2_with fail
    refine (KA _).mono ?_
    rintro e w2 ⟨rfl, hb2⟩
    obtain ⟨z0, z1, z2, z3, z4, z5⟩ := (Z1.below hb2).below (bl1 _ (.cells #[.int .u64 (hI x), .int .u64 (lI x)] 36))
    have kB2 := (keepb hb2 kB1).alloc (keepb hb2 kB1).size (.cells #[.int .u64 (hI x), .int .u64 (lI x)] 36)
    clear hb2 KA Z1 kB1
    go_wp2
    exact bodyPost_ret (v := .tuple #[.agg #[.int .u64 0, .int .u64 0, .int .i64 0], .int .i64 e0]) (by simp [results, Try.results65, go_sem, *]) rfl ⟨rfl, bset3 kB2 (Nat.le_refl _) _ _ _⟩
end Go.Proofs.Ytmeaikmmhgmgnaa
/-
  What the calls of package prefix's Parent, Sibling, Cmp, Meet do, of right prefixes.
-/
namespace Go.Proofs.Ytmeaikmmhgmgnaa
open Go.RowKit
set_option linter.unusedSimpArgs false
set_option linter.unusedVariables false

def cmpI (a b : Int) : Int := if a < b then -1 else if b < a then 1 else 0
theorem compare_any (a b : Int) (w : World) :
    Calls Try.prog 60 #[.int .i64 a, .int .i64 b] w fun e w' => e = .returned (.int .i64 (cmpI a b)) ∧ w' = w := by
  unfold cmpI
  have haa : (a != a) = false := by simp
  have hbb : (b != b) = false := by simp
  by_cases h : a < b
  · rw [if_pos h]
    go_enter Try.func60, Try.ntmps60
    go_wp2_with go_in
    go_ret
    exact ⟨rfl, rfl⟩
  · rw [if_neg h]
    by_cases h2 : b < a
    · rw [if_pos h2]
      go_enter Try.func60, Try.ntmps60
      go_wp2_with go_in
      go_ret
      exact ⟨rfl, rfl⟩
    · rw [if_neg h2]
      go_enter Try.func60, Try.ntmps60
      go_wp2_with go_in
      go_ret
      exact ⟨rfl, rfl⟩
def pcmpZ (x : BitVec 128) (n : Int) (y : BitVec 128) (m : Int) : Int := if cmpZ x y = 0 then cmpI n m else cmpZ x y
set_option maxHeartbeats 1000000 in
theorem pcmp_any (x : BitVec 128) (n : Int) (y : BitVec 128) (m : Int) (w : World) :
    Calls Try.prog 46 #[.agg #[.int .u64 (hI x), .int .u64 (lI x), .int .i64 n], .agg #[.int .u64 (hI y), .int .u64 (lI y), .int .i64 m]] w fun e w' => e = .returned (.int .i64 (pcmpZ x n y m)) ∧ Below w.heap.size w w' := by
  have KC := fun w => cmp_any x y w
  have KM := fun w => compare_any n m w
  unfold pcmpZ
  generalize cmpZ x y = c at *
  generalize cmpI n m = d at *
  by_cases h : c = 0
  · subst h
    rw [if_pos rfl]
    go_enter Try.func46, Try.ntmps46
    go_wp2_with fail
    refine (KC _).mono ?_
    rintro e w1 ⟨rfl, hb1⟩
    have kB := keepb hb1 (bl2 w _ _)
    obtain ⟨p0, p1, p2, -, -, -⟩ := ((atp_new w w.heap.size x n 38 rfl).below (bl1 _ (.cells #[.int .u64 (hI y), .int .u64 (lI y), .int .i64 m] 38))).below hb1
    obtain ⟨r0, r1, r2, -, -, -⟩ := (atp_new (w.alloc (.cells #[.int .u64 (hI x), .int .u64 (lI x), .int .i64 n] 38)) (w.heap.size + 1) y m 38 (by simp)).below hb1
    clear hb1 KC
    go_wp2_with fail
    refine (KM _).mono ?_
    rintro e w2 ⟨rfl, rfl⟩
    go_wp2
    go_ret
    exact ⟨rfl, kB⟩
  · have hb : (c != 0) = true := by simp [h]
    rw [if_neg h]
    go_enter Try.func46, Try.ntmps46
    go_wp2_with fail
    refine (KC _).mono ?_
    rintro e w1 ⟨rfl, hb1⟩
    have kB := keepb hb1 (bl2 w _ _)
    clear hb1 KC
    go_wp2
    go_ret
    exact ⟨rfl, kB⟩
end Go.Proofs.Ytmeaikmmhgmgnaa
/-
  What the calls of package table's isHop, byPrefix, checkRoute and checkRoutes do.
-/
namespace Go.Proofs.Ytmeaikmmhgmgnaa
open Go.RowKit
set_option linter.unusedSimpArgs false
set_option linter.unusedVariables false

/-- A route: its prefix, its next hop. -/
abbrev Rte := (BitVec 128 × Int) × Int
def AtR (w : World) (B : Nat) (x : BitVec 128) (n h : Int) : Prop := w.cell? ⟨B, 0, none⟩ = some (.int .u64 (hI x)) ∧ w.cell? ⟨B, 1, none⟩ = some (.int .u64 (lI x)) ∧ w.cell? ⟨B, 2, none⟩ = some (.int .i64 n) ∧ w.cell? ⟨B, 3, none⟩ = some (.int .i64 h)
theorem AtR.below {w w' : World} {B : Nat} {x : BitVec 128} {n h : Int} (g : AtR w B x n h) (hb : Below w.heap.size w w') : AtR w' B x n h := by
  obtain ⟨h0, h1, h2, h3⟩ := g
  exact ⟨keepc hb h0, keepc hb h1, keepc hb h2, keepc hb h3⟩
theorem atr_new (w : World) (B : Nat) (x : BitVec 128) (n h : Int) (T : TypeId) (e : B = w.heap.size) : AtR (w.alloc (.cells #[.int .u64 (hI x), .int .u64 (lI x), .int .i64 n, .int .i64 h] T)) B x n h := by
  subst e
  refine ⟨?_, ?_, ?_, ?_⟩ <;> simp [go_sem]
/-- A row of routes. -/
def rowR : List Rte → List Value
  | [] => []
  | r :: l => .int .u64 (hI r.1.1) :: .int .u64 (lI r.1.1) :: .int .i64 r.1.2 :: .int .i64 r.2 :: rowR l
theorem rowR_get : ∀ (l : List Rte) (j : Nat) (hj : j < l.length), (rowR l)[j * 4]? = some (.int .u64 (hI l[j].1.1)) ∧ (rowR l)[j * 4 + 1]? = some (.int .u64 (lI l[j].1.1)) ∧ (rowR l)[j * 4 + 2]? = some (.int .i64 l[j].1.2) ∧ (rowR l)[j * 4 + 3]? = some (.int .i64 l[j].2) := by
  intro l
  induction l with
  | nil => intro j hj; simp at hj
  | cons p l ih =>
    intro j hj
    cases j with
    | zero => simp [rowR]
    | succ j =>
      have := ih j (by simpa using hj)
      rw [show (j + 1) * 4 = j * 4 + 4 by omega, show j * 4 + 4 + 1 = j * 4 + 1 + 4 by omega, show j * 4 + 4 + 2 = j * 4 + 2 + 4 by omega, show j * 4 + 4 + 3 = j * 4 + 3 + 4 by omega]
      simpa [rowR] using this
/-- A list of routes in memory, whosever it is. -/
def RwR (W : World) (v : Value) (l : List Rte) : Prop := ∃ ao c, v = .slice ao l.length c ∧ (l = [] ∨ ∃ b off, ao = some ⟨b, off, none⟩ ∧ ∀ j u, (rowR l)[j]? = some u → W.cell? ⟨b, off + j, none⟩ = some u)
theorem RwR.below {W W' : World} {v : Value} {l : List Rte} (h : RwR W v l) (hb : Below W.heap.size W W') : RwR W' v l := by
  obtain ⟨ao, c, e, h⟩ := h
  refine ⟨ao, c, e, h.imp id ?_⟩
  rintro ⟨b, off, e', hc⟩
  exact ⟨b, off, e', fun j u hj => keepc hb (hc j u hj)⟩
theorem rwr_cells {W : World} {b off : Nat} {l : List Rte} (h : ∀ j u, (rowR l)[j]? = some u → W.cell? ⟨b, off + j, none⟩ = some u) (k : Nat) (hk : k < l.length) :
    W.cell? ⟨b, off + k * 4, none⟩ = some (.int .u64 (hI l[k].1.1)) ∧ W.cell? ⟨b, off + k * 4 + 1, none⟩ = some (.int .u64 (lI l[k].1.1)) ∧ W.cell? ⟨b, off + k * 4 + 2, none⟩ = some (.int .i64 l[k].1.2) ∧ W.cell? ⟨b, off + k * 4 + 3, none⟩ = some (.int .i64 l[k].2) := by
  obtain ⟨a, c, d, e⟩ := rowR_get l k hk
  exact ⟨h _ _ a, h _ _ c, h _ _ d, h _ _ e⟩
def hopB (n : Int) : Bool := decide (1 ≤ n) && decide (n ≤ 65535)
theorem isHop_any (n : Int) (w : World) : Calls Try.prog 52 #[.int .i64 n] w fun e w' => e = .returned (.bool (hopB n)) ∧ w' = w := by
  unfold hopB
  go_enter Try.func52, Try.ntmps52
  by_cases h1 : 1 ≤ n
  · by_cases h2 : n ≤ 65535
    · go_wp2
      go_ret
      exact ⟨by simp [h1, h2], rfl⟩
    · go_wp2
      go_ret
      exact ⟨by simp [h1, h2], rfl⟩
  · go_wp2
    go_ret
    exact ⟨by rw [decide_eq_false (by omega : ¬ 1 ≤ n)]; rfl, rfl⟩
theorem hidR {p : Prop} (h : p) : Hid p := h
theorem byPrefix_any (x : BitVec 128) (n h : Int) (y : BitVec 128) (m g : Int) (w : World) :
    Calls Try.prog 37 #[.agg #[.int .u64 (hI x), .int .u64 (lI x), .int .i64 n, .int .i64 h], .agg #[.int .u64 (hI y), .int .u64 (lI y), .int .i64 m, .int .i64 g]] w fun e w' => e = .returned (.int .i64 (pcmpZ x n y m)) ∧ Below w.heap.size w w' := by
  have KC := fun w => pcmp_any x n y m w
  generalize pcmpZ x n y m = z at *
  have A1 := atr_new w w.heap.size x n h 40 rfl
  have b1 := bl1 w (.cells #[.int .u64 (hI x), .int .u64 (lI x), .int .i64 n, .int .i64 h] 40)
  have b2 := bl1 (w.alloc (.cells #[.int .u64 (hI x), .int .u64 (lI x), .int .i64 n, .int .i64 h] 40)) (.cells #[.int .u64 (hI y), .int .u64 (lI y), .int .i64 m, .int .i64 g] 40)
  obtain ⟨p0, p1, p2, -⟩ := A1.below b2
  obtain ⟨q0, q1, q2, -⟩ := atr_new (w.alloc (.cells #[.int .u64 (hI x), .int .u64 (lI x), .int .i64 n, .int .i64 h] 40)) (w.heap.size + 1) y m g 40 (by simp)
  have HB := hidR (keepb b2 b1)
  clear A1 b1 b2
  go_enter Try.func37, Try.ntmps37
  go_wp2_with fail
  refine (KC _).mono ?_
  rintro e w1 ⟨rfl, hb⟩
  have kB := keepb hb HB.out
  clear KC hb HB p0 p1 p2 q0 q1 q2
  go_wp2
  go_ret
  exact ⟨rfl, kB⟩
end Go.Proofs.Ytmeaikmmhgmgnaa
/-
  Plain: how a table's text is read.
-/
namespace Go.Proofs.Ytmeaikmmhgmgnaa
open Go.RowKit
set_option linter.unusedSimpArgs false
set_option linter.unusedVariables false

/-- What a byte of a line is: 0 of a word, 1 a blank, 2 behind what counts. -/
def kdS (s : ByteArray) (k : Nat) : Int := if k = s.size then 2 else if byteAt s k = 32 ∨ byteAt s k = 9 then 1 else if byteAt s k = 35 ∨ byteAt s k = 10 then 2 else 0
theorem kdS_end (s : ByteArray) : kdS s s.size = 2 := by unfold kdS; rw [if_pos rfl]
theorem kdS_in {s : ByteArray} {k : Nat} (h : ¬ kdS s k = 2) (hk : k ≤ s.size) : k < s.size := by
  apply Classical.byContradiction; intro q
  have : k = s.size := by omega
  rw [this, kdS_end] at h
  exact h rfl
theorem kdS_ways (s : ByteArray) (k : Nat) : kdS s k = 0 ∨ kdS s k = 1 ∨ kdS s k = 2 := by
  unfold kdS
  split
  · exact .inr (.inr rfl)
  · split
    · exact .inr (.inl rfl)
    · split
      · exact .inr (.inr rfl)
      · exact .inl rfl
/-- Where the blanks end; where the word ends. -/
def skB (s : ByteArray) : Nat → Nat → Nat
  | 0, k => k
  | f + 1, k => if kdS s k = 1 then skB s f (k + 1) else k
def skS (s : ByteArray) (k : Nat) : Nat := skB s (s.size - k) k
def wdB (s : ByteArray) : Nat → Nat → Nat
  | 0, k => k
  | f + 1, k => if kdS s k = 0 then wdB s f (k + 1) else k
def wdS (s : ByteArray) (k : Nat) : Nat := wdB s (s.size - k) k
theorem skS_go {s : ByteArray} {k : Nat} (hk : k ≤ s.size) (h : kdS s k = 1) : skS s k = skS s (k + 1) := by
  have := kdS_in (s := s) (k := k) (by omega) hk
  unfold skS
  rw [show s.size - k = (s.size - (k + 1)) + 1 by omega]
  show (if kdS s k = 1 then _ else _) = _
  rw [if_pos h]
theorem skS_here {s : ByteArray} {k : Nat} (h : ¬ kdS s k = 1) : skS s k = k := by
  unfold skS
  match hf : s.size - k with
  | 0 => rfl
  | f + 1 => show (if kdS s k = 1 then _ else _) = _; rw [if_neg h]
theorem wdS_go {s : ByteArray} {k : Nat} (hk : k ≤ s.size) (h : kdS s k = 0) : wdS s k = wdS s (k + 1) := by
  have := kdS_in (s := s) (k := k) (by omega) hk
  unfold wdS
  rw [show s.size - k = (s.size - (k + 1)) + 1 by omega]
  show (if kdS s k = 0 then _ else _) = _
  rw [if_pos h]
theorem wdS_here {s : ByteArray} {k : Nat} (h : ¬ kdS s k = 0) : wdS s k = k := by
  unfold wdS
  match hf : s.size - k with
  | 0 => rfl
  | f + 1 => show (if kdS s k = 0 then _ else _) = _; rw [if_neg h]
theorem skS_bd (s : ByteArray) : ∀ (d k : Nat), s.size - k ≤ d → k ≤ s.size → k ≤ skS s k ∧ skS s k ≤ s.size ∧ ¬ kdS s (skS s k) = 1
  | d, k, hd, hk => by
    by_cases h : kdS s k = 1
    · have := kdS_in (s := s) (k := k) (by omega) hk
      rw [skS_go hk h]
      match d, hd with
      | d + 1, hd =>
        have q := skS_bd s d (k + 1) (by omega) (by omega)
        exact ⟨by omega, q.2.1, q.2.2⟩
      | 0, hd => omega
    · rw [skS_here h]; exact ⟨Nat.le_refl _, hk, h⟩
theorem wdS_bd (s : ByteArray) : ∀ (d k : Nat), s.size - k ≤ d → k ≤ s.size → k ≤ wdS s k ∧ wdS s k ≤ s.size ∧ ¬ kdS s (wdS s k) = 0
  | d, k, hd, hk => by
    by_cases h : kdS s k = 0
    · have := kdS_in (s := s) (k := k) (by omega) hk
      rw [wdS_go hk h]
      match d, hd with
      | d + 1, hd =>
        have q := wdS_bd s d (k + 1) (by omega) (by omega)
        exact ⟨by omega, q.2.1, q.2.2⟩
      | 0, hd => omega
    · rw [wdS_here h]; exact ⟨Nat.le_refl _, hk, h⟩
/-- A next hop, read from a place on. -/
def nhR (t : ByteArray) : Nat → Nat → Int → Option Int
  | 0, _, n => some n
  | f + 1, k, n => if byteAt t k < 48 ∨ 57 < byteAt t k then none else if hopB (10 * n + (byteAt t k - 48)) = true then nhR t f (k + 1) (10 * n + (byteAt t k - 48)) else none
def nhO (t : ByteArray) : Option Int := nhR t t.size 0 0
/-- What a line's words say, from the first one on: an error and its place, or a route and the place behind. -/
def entO (F : Int) (s : ByteArray) (a : Nat) : (Int × Nat) ⊕ (Rte × Nat) :=
  if ppE F (s.extract a (wdS s a)) = 0 then
    (if kdS s (skS s (wdS s a)) = 0 then
      (match nhO (s.extract (skS s (wdS s a)) (wdS s (skS s (wdS s a)))) with
        | none => .inl (15, skS s (wdS s a))
        | some h => if kdS s (skS s (wdS s (skS s (wdS s a)))) = 0 then .inl (12, skS s (wdS s (skS s (wdS s a)))) else .inr (((ppV F (s.extract a (wdS s a)), ppN F (s.extract a (wdS s a))), h), skS s (wdS s (skS s (wdS s a)))))
    else .inl (12, skS s (wdS s a)))
  else .inl (ppE F (s.extract a (wdS s a)), a)
/-- Where the next line's end is, from a place on; -1: none. -/
def nlS (s : ByteArray) (k : Nat) : Int := Lib.indexByte (s.extract k s.size).data.toList 10
theorem nlS_bd (s : ByteArray) (k : Nat) (hk : k ≤ s.size) : nlS s k = -1 ∨ (0 ≤ nlS s k ∧ (k : Int) + nlS s k < s.size) := by
  have := indexByte_bd 10 (s.extract k s.size).data.toList
  have e : (s.extract k s.size).data.toList.length = s.size - k := by
    have q : (s.extract k s.size).size = min s.size s.size - k := ByteArray.size_extract
    rw [Array.length_toList]
    show (s.extract k s.size).size = _
    omega
  rw [e] at this
  unfold nlS
  omega
end Go.Proofs.Ytmeaikmmhgmgnaa
/-
  The document's next hop: hop.
-/
namespace Go.Proofs.Ytmeaikmmhgmgnaa
open Go.RowKit
set_option linter.unusedSimpArgs false
set_option linter.unusedVariables false

end Go.Proofs.Ytmeaikmmhgmgnaa
/-
  Plain: the words of a line.
-/
namespace Go.Proofs.Ytmeaikmmhgmgnaa
open Go.RowKit
set_option linter.unusedSimpArgs false
set_option linter.unusedVariables false

/-- Where the words end, and begin. -/
def bNw (t : ByteArray) : Nat → Nat
  | 0 => 0
  | c + 1 => wdS t (skS t (bNw t c))
def aNw (t : ByteArray) (c : Nat) : Nat := skS t (bNw t c)
theorem bNw_le (t : ByteArray) : ∀ c, bNw t c ≤ t.size
  | 0 => Nat.zero_le _
  | c + 1 => (wdS_bd t _ _ (Nat.le_refl _) (skS_bd t _ _ (Nat.le_refl _) (bNw_le t c)).2.1).2.1
theorem aNw_bd (t : ByteArray) (c : Nat) : bNw t c ≤ aNw t c ∧ aNw t c ≤ bNw t (c + 1) ∧ aNw t c ≤ t.size := by
  have h1 := skS_bd t _ _ (Nat.le_refl _) (bNw_le t c)
  exact ⟨h1.1, (wdS_bd t _ _ (Nat.le_refl _) h1.2.1).1, h1.2.1⟩
/-- What a line says: a route, whether there is one, an error, its place. -/
def enR (F : Int) (t : ByteArray) : Rte × Bool × Int × Int :=
  if kdS t (aNw t 0) = 0 then (match entO F t (aNw t 0) with
    | .inl (e, p) => (((0#128, 0), 0), true, e, (p : Int) + 1)
    | .inr (r, _) => (r, true, 0, 0)) else (((0#128, 0), 0), false, 0, 0)
theorem bNw_s (t : ByteArray) (c : Nat) : wdS t (aNw t c) = bNw t (c + 1) := rfl
theorem aNw_s (t : ByteArray) (c : Nat) : skS t (bNw t c) = aNw t c := rfl
end Go.Proofs.Ytmeaikmmhgmgnaa
/-
  Whole prefixes and words, compared: one answer, without parting the ways.
-/
namespace Go.Proofs.Ytmeaikmmhgmgnaa
open Go.RowKit
set_option linter.unusedSimpArgs false
set_option linter.unusedVariables false

theorem eqP_run (x : BitVec 128) (n : Int) (y : BitVec 128) (m : Int) (w : World) :
    (Op.equalIn 10000 38 (.agg #[.int .u64 (hI x), .int .u64 (lI x), .int .i64 n]) (.agg #[.int .u64 (hI y), .int .u64 (lI y), .int .i64 m])).run Try.prog w = .ok ((x == y) && (n == m)) w := by
  rcases eqw x y with ⟨q1, q2, q3⟩ | ⟨q1, q3⟩ | ⟨q1, q2, q3⟩
  all_goals
    rw [q3]
    go_simp
    try simp [*]
    try (by_cases e : n = m <;> simp [e])
end Go.Proofs.Ytmeaikmmhgmgnaa
/-
  Rows in memory, whosever they are: cut, and laid behind a row of one's own.
-/
namespace Go.Proofs.Ytmeaikmmhgmgnaa
open Go.RowKit
set_option linter.unusedSimpArgs false
set_option linter.unusedVariables false

/-- A row in memory, whosever it is: n elements of so many cells. -/
def Row (w : World) (size : Nat) (v : Value) (n : Nat) (xs : List Value) : Prop :=
  xs.length = n * size ∧ ∃ ao c, v = .slice ao n c ∧ n ≤ c ∧ ((ao = none ∧ c = 0 ∧ n = 0) ∨ ∃ b off, ao = some ⟨b, off, none⟩ ∧ ∀ j u, xs[j]? = some u → w.cell? ⟨b, off + j, none⟩ = some u)
theorem addA (g o j : Nat) : (⟨g, o, none⟩ : Addr).add j = ⟨g, o + j, none⟩ := by unfold Addr.add; split <;> simp_all
theorem own_row {w : World} {base e size n : Nat} {v : Value} {xs : List Value} (h : w.ownsRow base e size v n xs) : Row w size v n xs := by
  refine ⟨h.1, ?_⟩
  rcases h.2 with ⟨e0, e1⟩ | ⟨g, cap, cur, e0, hb, hg, hnc, hm, hs, ht⟩
  · subst e1
    exact ⟨none, 0, e0, Nat.le_refl _, .inl ⟨rfl, rfl, rfl⟩⟩
  · refine ⟨some ⟨g, 0, none⟩, cap, e0, hnc, .inr ⟨g, 0, rfl, ?_⟩⟩
    intro j u hj
    have f := h.cells (g := g) (by rw [e0]; rfl) j u hj
    rw [addA, Nat.zero_add] at f
    rw [Nat.zero_add]
    exact f
theorem run_slice_to {P : Program} {w : World} {t e : TypeId} {i : TypeInfo} (ht : P.underlying t = some (.slice e)) (hi : P.info? e = some i) (ao : Option Addr) (n c k : Nat) (hk : k ≤ c) :
    Sem.run P (Instr.sliceAt t (.slice ao n c) none (some (.int .i64 k)) none) w = .ok (.slice ao k c) w := by
  simp [Instr.sliceAt, Instr.slice, Instr.sliceBounds, Instr.sliceBound, run_underlying ht, sizeOf, typeInfo, hi, hk, go_sem]
theorem own_form {w : World} {base e size n : Nat} {v : Value} {xs : List Value} (h : w.ownsRow base e size v n xs) : ∃ ao c, v = .slice ao n c := by
  rcases h.2 with ⟨e, h⟩ | ⟨g, cap, cur, e, _⟩
  · exact ⟨none, 0, by rw [h]; exact e⟩
  · exact ⟨_, _, e⟩
theorem Row.below {w w' : World} {size n : Nat} {v : Value} {xs : List Value} (h : Row w size v n xs) (hb : Below w.heap.size w w') : Row w' size v n xs := by
  obtain ⟨hl, ao, c, e, hc, h⟩ := h
  refine ⟨hl, ao, c, e, hc, ?_⟩
  rcases h with h | ⟨b, off, e, h⟩
  · exact .inl h
  · exact .inr ⟨b, off, e, fun j u hj => keepc hb (h j u hj)⟩
end Go.Proofs.Ytmeaikmmhgmgnaa
/-
  Rows in memory, whosever they are (Rws0), beside the prefixes.
-/
/-
  What the calls of package addr's beside, Next and Prev do.
-/
namespace Go.Proofs.Ytmeaikmmhgmgnaa
open Go.RowKit
set_option linter.unusedSimpArgs false
set_option linter.unusedVariables false

theorem At.drew {w : World} {B : Nat} {x : BitVec 128} (h : At w B x) : At w.drew B x := h
end Go.Proofs.Ytmeaikmmhgmgnaa
/-
  Segments in memory, with their next hops; rows of them; what is told of a list of them.
-/
namespace Go.Proofs.Ytmeaikmmhgmgnaa
open Go.RowKit
set_option linter.unusedSimpArgs false
set_option linter.unusedVariables false

/-- A segment: its first, its last address, its next hop. -/
abbrev Sg := (BitVec 128 × BitVec 128) × Int
/-- A segment in memory. -/
def AtG (w : World) (B : Nat) (x y : BitVec 128) (h : Int) : Prop := w.cell? ⟨B, 0, none⟩ = some (.int .u64 (hI x)) ∧ w.cell? ⟨B, 1, none⟩ = some (.int .u64 (lI x)) ∧ w.cell? ⟨B, 2, none⟩ = some (.int .u64 (hI y)) ∧ w.cell? ⟨B, 3, none⟩ = some (.int .u64 (lI y)) ∧ w.cell? ⟨B, 4, none⟩ = some (.int .i64 h) ∧ w.frozen? ⟨B, 0, none⟩ = false ∧ w.frozen? ⟨B, 1, none⟩ = false ∧ w.frozen? ⟨B, 2, none⟩ = false ∧ w.frozen? ⟨B, 3, none⟩ = false ∧ w.frozen? ⟨B, 4, none⟩ = false
theorem AtG.below {w w' : World} {B : Nat} {x y : BitVec 128} {h : Int} (g : AtG w B x y h) (hb : Below w.heap.size w w') : AtG w' B x y h := by
  obtain ⟨a0, a1, a2, a3, a4, b0, b1, b2, b3, b4⟩ := g
  exact ⟨keepc hb a0, keepc hb a1, keepc hb a2, keepc hb a3, keepc hb a4, keepf hb a0 b0, keepf hb a1 b1, keepf hb a2 b2, keepf hb a3 b3, keepf hb a4 b4⟩
theorem AtG.lt {W : World} {B : Nat} {x y : BitVec 128} {h : Int} (g : AtG W B x y h) : B < W.heap.size := cell_in g.1
def rowG : List Sg → List Value
  | [] => []
  | p :: l => .int .u64 (hI p.1.1) :: .int .u64 (lI p.1.1) :: .int .u64 (hI p.1.2) :: .int .u64 (lI p.1.2) :: .int .i64 p.2 :: rowG l
/-- A list of segments in memory, whosever it is. -/
def RwG (W : World) (v : Value) (l : List Sg) : Prop := ∃ ao c, v = .slice ao l.length c ∧ (l = [] ∨ ∃ b off, ao = some ⟨b, off, none⟩ ∧ ∀ j u, (rowG l)[j]? = some u → W.cell? ⟨b, off + j, none⟩ = some u)
theorem RwG.below {W W' : World} {v : Value} {l : List Sg} (h : RwG W v l) (hb : Below W.heap.size W W') : RwG W' v l := by
  obtain ⟨ao, c, e, h⟩ := h
  refine ⟨ao, c, e, h.imp id ?_⟩
  rintro ⟨b, off, e', hc⟩
  exact ⟨b, off, e', fun j u hj => keepc hb (hc j u hj)⟩
end Go.Proofs.Ytmeaikmmhgmgnaa
