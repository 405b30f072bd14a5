/-
  Part 8 of the proof: 18 texts, one behind the other.
-/
import Derived.Test.YtohnhpicjedfeaaPart7
import Derived.Test.YtohnhpicjedfeaaPart6
import Derived.Deep.AppendLies
import Derived.OwnWalk
import Derived.Laws.OwnMore
import Derived.Deep.Onto
import Derived.Test.YtohnhpicjedfeaaPart3
import Derived.Test.YtohnhpicjedfeaaShelf
import Derived.Shelf.Strings.Search1
import Derived.Test.YtohnhpicjedfeaaPart2
import Derived.Test.YtohnhpicjedfeaaPart5
import Derived.Test.YtohnhpicjedfeaaPart4
import Derived.OrdersIn
import Derived.TacticsIn
import Derived.RangeFuncSeq
import Derived.RangeFuncNested
import Derived.RangeFuncBound
import Derived.RangeFuncCalls
import Derived.RangeFuncLeaves
import Derived.Shelf.Abstract
import Derived.Shelf.RegionOpen
import Derived.WalkKit
import Derived.OwnWalkIn
import Derived.TacticsInMore
import Derived.LoopNIn
import Derived.LoopIn
namespace Go.Proofs.Ytohnhpicjedfeaa
open Go.RowKit
set_option linter.unusedSimpArgs false
set_option linter.unusedVariables false

theorem answer_any (x : BitVec 128) (b : Bool) (w : World) :
    Calls Try.prog 84 #[.agg #[.int .u64 (hI x), .int .u64 (lI x)], .bool b] w fun e w' => e = .returned (.tuple #[.agg #[.int .u64 (hI (if b = true then x else 0#128)), .int .u64 (lI (if b = true then x else 0#128))], .int .i64 (if b = true then 0 else 12)]) ∧ Below w.heap.size w w' := by
  cases b
  · rw [if_neg (by simp), if_neg (by simp), hI_zero, lI_zero]
    go_enter Try.func84, Try.ntmps84
    go_wp2
    exact bodyPost_ret (v := .tuple #[.agg #[.int .u64 0, .int .u64 0], .int .i64 12]) (by simp [results, Try.results84, go_sem]) rfl ⟨rfl, bl2 _ _ _⟩
  · rw [if_pos rfl, if_pos rfl]
    go_enter Try.func84, Try.ntmps84
    go_wp2
    exact bodyPost_ret (v := .tuple #[.agg #[.int .u64 (hI x), .int .u64 (lI x)], .int .i64 0]) (by simp [results, Try.results84, go_sem]) rfl ⟨rfl, bl2 _ _ _⟩

def apV (F : Int) (s : ByteArray) : BitVec 128 := if F = 32 then (if fourB s = true then fourV s else 0#128) else if F = 128 then (if (six0 s).2 = true then (six0 s).1 else 0#128) else 0#128
def apE (F : Int) (s : ByteArray) : Int := if F = 32 then (if fourB s = true then 0 else 12) else if F = 128 then (if (six0 s).2 = true then 0 else 12) else 11

set_option maxHeartbeats 2000000 in
theorem aparse_any (F : Int) (s : ByteArray) (w : World) (hs : s.size ≤ maxLen) :
    Calls Try.prog 76 #[.int .i64 F, .string s] w fun e w' => e = .returned (.tuple #[.agg #[.int .u64 (hI (apV F s)), .int .u64 (lI (apV F s))], .int .i64 (apE F s)]) ∧ Below w.heap.size w w' := by
  unfold apV apE
  by_cases h32 : F = 32
  · rw [if_pos h32, if_pos h32]
    have KR := fun w => readFour_any s w hs
    have KA := fun w => answer_any (fourV s) (fourB s) w
    revert KA
    generalize (if fourB s = true then fourV s else 0#128) = x
    generalize (if fourB s = true then (0 : Int) else 12) = r
    intro KA
    generalize fourV s = y at *
    generalize fourB s = b at *
    subst h32
    go_enter Try.func76, Try.ntmps76
    go_wp2_with fail
    refine (KR _).mono ?_
    rintro e w1 ⟨rfl, hb1⟩
    go_wp2_with fail
    refine (KA _).mono ?_
    rintro e w2 ⟨rfl, hb2⟩
    have hZ := ((at_new w w.heap.size 0#128 36 rfl).below hb1).below hb2
    have kB := keepb hb2 (keepb hb1 (bl1 w _))
    obtain ⟨z0, z1, z2, z3, z4⟩ := hZ
    clear hb1 hb2 KR KA
    go_wp2
    exact bodyPost_ret (v := .tuple #[.agg #[.int .u64 (hI x), .int .u64 (lI x)], .int .i64 r]) (by simp [results, Try.results76, go_sem, *]) rfl ⟨rfl, bset2 kB (Nat.le_refl _) _ _⟩
  rw [if_neg h32, if_neg h32]
  by_cases h128 : F = 128
  · rw [if_pos h128, if_pos h128]
    have KR := fun w => readSix_any s w hs
    have KA := fun w => answer_any (six0 s).1 (six0 s).2 w
    revert KA
    generalize (if (six0 s).2 = true then (six0 s).1 else 0#128) = x
    generalize (if (six0 s).2 = true then (0 : Int) else 12) = r
    intro KA
    generalize (six0 s).1 = y at *
    generalize (six0 s).2 = b at *
    clear h32
    subst h128
    go_enter Try.func76, Try.ntmps76
    go_wp2_with fail
    refine (KR _).mono ?_
    rintro e w1 ⟨rfl, hb1⟩
    go_wp2_with fail
    refine (KA _).mono ?_
    rintro e w2 ⟨rfl, hb2⟩
    have hZ := ((at_new w w.heap.size 0#128 36 rfl).below hb1).below hb2
    have kB := keepb hb2 (keepb hb1 (bl1 w _))
    obtain ⟨z0, z1, z2, z3, z4⟩ := hZ
    clear hb1 hb2 KR KA
    go_wp2
    exact bodyPost_ret (v := .tuple #[.agg #[.int .u64 (hI x), .int .u64 (lI x)], .int .i64 r]) (by simp [results, Try.results76, go_sem, *]) rfl ⟨rfl, bset2 kB (Nat.le_refl _) _ _⟩
  · rw [if_neg h128, if_neg h128, hI_zero, lI_zero]
    have b1 : (F == 32) = false := by simp [h32]
    have b2 : (F == 128) = false := by simp [h128]
    go_enter Try.func76, Try.ntmps76
    go_wp2
    exact bodyPost_ret (v := .tuple #[.agg #[.int .u64 0, .int .u64 0], .int .i64 11]) (by simp [results, Try.results76, go_sem, *]) rfl ⟨rfl, bl1 _ _⟩

end Go.Proofs.Ytohnhpicjedfeaa
namespace Go.Proofs.Ytohnhpicjedfeaa
open Go.RowKit
set_option linter.unusedSimpArgs false
set_option linter.unusedVariables false

end Go.Proofs.Ytohnhpicjedfeaa
namespace Go.Proofs.Ytohnhpicjedfeaa
open Go.RowKit
set_option linter.unusedSimpArgs false
set_option linter.unusedVariables false

end Go.Proofs.Ytohnhpicjedfeaa
namespace Go.Proofs.Ytohnhpicjedfeaa
open Go.RowKit
set_option linter.unusedSimpArgs false
set_option linter.unusedVariables false

end Go.Proofs.Ytohnhpicjedfeaa
namespace Go.Proofs.Ytohnhpicjedfeaa
open Go.RowKit
set_option linter.unusedSimpArgs false
set_option linter.unusedVariables false

theorem empty_is (t : ByteArray) : t.toList.isEmpty = decide (t.size = 0) := by
  rw [Lib.toList_data, Lib.size_eq]
  cases t.data.toList <;> simp

end Go.Proofs.Ytohnhpicjedfeaa
namespace Go.Proofs.Ytohnhpicjedfeaa
open Go.RowKit
set_option linter.unusedSimpArgs false
set_option linter.unusedVariables false

def ixS (s : ByteArray) : Int := Lib.indexByte s.data.toList 47
theorem indexByte_bd (c : UInt8) : ∀ l : List UInt8, Lib.indexByte l c = -1 ∨ (0 ≤ Lib.indexByte l c ∧ Lib.indexByte l c < l.length) := by
  intro l
  induction l with
  | nil => exact Or.inl rfl
  | cons b l ih =>
    unfold Lib.indexByte
    by_cases h : (b == c) = true
    · rw [if_pos h]; right; simp
    · rw [if_neg h]
      by_cases h1 : (Lib.indexByte l c == -1) = true
      · rw [if_pos h1]; left; rfl
      · rw [if_neg h1]
        rcases ih with e | e
        · simp [e] at h1
        · right; simp; omega
theorem ixS_bd (s : ByteArray) : ixS s = -1 ∨ (0 ≤ ixS s ∧ ixS s < s.size) := indexByte_bd 47 s.data.toList
theorem ixB_any (s : ByteArray) (w : World) :
    Calls Try.prog 78 #[.string s, .int .u8 47] w fun e w' => e = .returned (.int .i64 (ixS s)) ∧ w' = w :=
  Any.stringslite_IndexByte Try.lays217 s 47 w

def slash : ByteArray := ⟨#[47]⟩
set_option maxHeartbeats 1000000 in
set_option maxRecDepth 20000 in
theorem index1_any (s : ByteArray) (w : World) :
    Calls Try.prog 90 #[.string s, .string ⟨#[47]⟩] w fun e w' => e = .returned (.int .i64 (ixS s)) ∧ w' = w := by
  have KI := fun w => ixB_any s w
  cases hb : ([47] == s.toList)
  · go_enter Try.func90, Try.ntmps90
    go_wp2_with fail
    refine (KI _).mono ?_
    rintro e w1 ⟨rfl, rfl⟩
    go_wp2
    go_ret
    exact ⟨rfl, rfl⟩
  · have h : s = ⟨#[47]⟩ := by
      have h1 := eq_of_beq hb
      apply ByteArray.ext
      apply Array.ext'
      rw [ByteArray.toList_eq] at h1
      exact h1.symm
    subst h
    have hv : ixS ⟨#[47]⟩ = 0 := by decide
    rw [hv]
    clear hb KI hv
    go_enter Try.func90, Try.ntmps90
    go_wp2
    go_ret
    exact ⟨rfl, rfl⟩

theorem bdrewN {n : Nat} {w W : World} (h : Below n w W) (k : Nat) : Below n w (W.drewN k) := ⟨h.os, h.tape, h.output, h.size, h.block⟩
def headS (s : ByteArray) : ByteArray := if ixS s = -1 then s else s.extract 0 (ixS s).toNat
def tailS (s : ByteArray) : ByteArray := if ixS s = -1 then ⟨#[]⟩ else s.extract ((ixS s).toNat + 1) s.size
set_option maxHeartbeats 1000000 in
theorem lcut_any (s : ByteArray) (w : World) (hs : s.size ≤ maxLen) :
    Calls Try.prog 83 #[.string s, .string ⟨#[47]⟩] w fun e w' => e = .returned (.tuple #[.string (headS s), .string (tailS s), .bool (decide (ixS s ≠ -1))]) ∧ Below w.heap.size w w' := by
  have KI := fun w => index1_any s w
  have bd := ixS_bd s
  unfold maxLen at hs
  unfold headS tailS
  generalize ixS s = i at *
  by_cases h : i = -1
  · subst h
    rw [if_pos rfl, if_pos rfl]
    go_enter Try.func83, Try.ntmps83
    go_wp2_with fail
    refine (KI _).mono ?_
    rintro e w1 ⟨rfl, rfl⟩
    go_wp2
    exact bodyPost_ret (v := .tuple #[.string s, .string ⟨#[]⟩, .bool false]) (by simp [results, Try.results83, go_sem]) rfl ⟨by simp, Below.refl _ _⟩
  · obtain ⟨k, rfl⟩ : ∃ k : Nat, i = k := ⟨i.toNat, by omega⟩
    rw [if_neg h, if_neg h]
    have hk : k < s.size := by omega
    have hu : IntKind.i64.wrap ((k : Int) + 1) = (k : Int) + 1 := by rw [IntKind.wrap_i64]; omega
    have hk0 : (0 : Int) ≤ (k : Int) := by omega
    have hk1 : (k : Int) ≤ (s.size : Int) := by omega
    have hk2 : (k : Int) + 1 ≤ (s.size : Int) := by omega
    have hk3 : (0 : Int) ≤ (k : Int) + 1 := by omega
    have ht : ((k : Int) + 1).toNat = k + 1 := by omega
    go_enter Try.func83, Try.ntmps83
    go_wp2_with fail
    refine (KI _).mono ?_
    rintro e w1 ⟨rfl, rfl⟩
    go_wp2
    go_quiet (fail)
    go_wp2
    exact bodyPost_ret (v := .tuple #[.string (s.extract 0 k), .string (s.extract (k + 1) s.size), .bool true]) (by simp [results, Try.results83, go_sem]) rfl ⟨by simp, bdrewN (Below.refl _ _) _⟩
theorem scut_any (s : ByteArray) (w : World) (hs : s.size ≤ maxLen) :
    Calls Try.prog 75 #[.string s, .string ⟨#[47]⟩] w fun e w' => e = .returned (.tuple #[.string (headS s), .string (tailS s), .bool (decide (ixS s ≠ -1))]) ∧ Below w.heap.size w w' := by
  go_enter Try.func75, Try.ntmps75
  go_wp2_with fail
  refine (lcut_any s _ hs).mono ?_
  rintro e w1 ⟨rfl, hb1⟩
  go_wp2
  exact bodyPost_ret (v := .tuple #[.string (headS s), .string (tailS s), .bool (decide (ixS s ≠ -1))]) (by simp [results, Try.results75, go_sem]) rfl ⟨rfl, hb1⟩

def lenR (t : ByteArray) : Nat → Nat → Int → Option Int
  | 0, _, n => some n
  | f + 1, k, n => if byteAt t k < 48 ∨ 57 < byteAt t k then none else lenR t f (k + 1) (10 * n + (byteAt t k - 48))
def lenO (t : ByteArray) : Option Int := if t.size = 0 ∨ 3 < t.size ∨ (byteAt t 0 = 48 ∧ 1 < t.size) then none else lenR t t.size 0 0
def lenV (t : ByteArray) : Int := (lenO t).getD 0
def lenB (t : ByteArray) : Bool := (lenO t).isSome
set_option maxHeartbeats 1000000 in
theorem plength_any (t : ByteArray) (w : World) (hs : t.size ≤ maxLen) :
    Calls Try.prog 77 #[.string t] w fun e w' => e = .returned (.tuple #[.int .i64 (lenV t), .bool (lenB t)]) ∧ w' = w := by
  unfold maxLen at hs
  by_cases hz : t.size = 0
  · have he : t.toList.isEmpty = true := by rw [empty_is]; simp [hz]
    have HF : Hid (lenV t = 0 ∧ lenB t = false) := by
      show _ ∧ _
      unfold lenV lenB lenO; rw [if_pos (Or.inl hz)]; exact ⟨rfl, rfl⟩
    go_enter Try.func77, Try.ntmps77
    go_wp2
    go_ret2
    exact ⟨by rw [HF.out.1, HF.out.2]; rfl, rfl⟩
  have he : t.toList.isEmpty = false := by rw [empty_is]; simp [hz]
  by_cases h3 : (3 : Int) < (t.size : Int)
  · have HF : Hid (lenV t = 0 ∧ lenB t = false) := by
      show _ ∧ _
      unfold lenV lenB lenO; rw [if_pos (Or.inr (Or.inl (by omega)))]; exact ⟨rfl, rfl⟩
    go_enter Try.func77, Try.ntmps77
    go_wp2
    go_ret2
    exact ⟨by rw [HF.out.1, HF.out.2]; rfl, rfl⟩
  have hpos : 0 < t.size := by omega
  have hb0 := byteAt_in t 0 hpos
  by_cases h0 : byteAt t 0 = 48 ∧ 1 < t.size
  · have HF : Hid (lenV t = 0 ∧ lenB t = false) := by
      show _ ∧ _
      unfold lenV lenB lenO; rw [if_pos (Or.inr (Or.inr h0))]; exact ⟨rfl, rfl⟩
    obtain ⟨q1, q2⟩ := h0
    have q2' : (1 : Int) < (t.size : Int) := by omega
    have qb : (byteAt t 0 == 48) = true := by simp [q1]
    generalize byteAt t 0 = c at *
    clear q1
    go_enter Try.func77, Try.ntmps77
    go_wp2
    go_ret2
    exact ⟨by rw [HF.out.1, HF.out.2]; rfl, rfl⟩
  have HO : Hid (lenO t = lenR t t.size 0 0) := by
    show _ = _
    unfold lenO; rw [if_neg]
    rintro (q | q | q)
    · exact hz q
    · omega
    · exact h0 q
  have hq : ((byteAt t 0 == 48) = false) ∨ ((byteAt t 0 == 48) = true ∧ ¬ (1 : Int) < (t.size : Int)) := by
    by_cases q : byteAt t 0 = 48
    · right; exact ⟨by simp [q], by omega⟩
    · left; simp [q]
  have ht3 : (t.size : Int) ≤ 3 := by omega
  clear h0
  rcases hq with qb | ⟨qb, q2⟩
  all_goals
    go_enter Try.func77, Try.ntmps77
    go_wp2
    go_loopw [4, 25] (fun a b wr => ∃ (k : Nat) (n : Int), a = .int .i64 n ∧ b = .int .i64 k ∧ k ≤ t.size ∧ 0 ≤ n ∧ n ≤ 999 ∧ Hid ((k = 0 ∧ n = 0) ∨ (k = 1 ∧ n ≤ 9) ∨ (k = 2 ∧ n ≤ 99) ∨ (k = 3 ∧ n ≤ 999)) ∧ Hid (lenR t (t.size - k) k n = lenR t t.size 0 0) ∧ wr = w) (fun _ b _ => t.size - (intOf b).toNat)
    case atStart => exact ⟨0, 0, rfl, rfl, by omega, by omega, by omega, Or.inl ⟨rfl, rfl⟩, rfl, rfl⟩
    case round =>
      obtain ⟨k, n, rfl, rfl, hk, g0, g1, HB, HR, rfl⟩ := hrel
      clear qb hb0 he
      by_cases hlt : k < t.size
      · have hbt := byteAt_in t k hlt
        have bd := byteAt_bd t k
        have HU : Hid (t.size - k = (t.size - (k + 1)) + 1) := by show _ = _; omega
        have HS : Hid (∀ f, lenR t (f + 1) k n = if byteAt t k < 48 ∨ 57 < byteAt t k then none else lenR t f (k + 1) (10 * n + (byteAt t k - 48))) := fun f => rfl
        generalize byteAt t k = c at *
        have hk2 : (k : Int) < (t.size : Int) := by omega
        by_cases d0 : c < 48
        · have HF : Hid (lenV t = 0 ∧ lenB t = false) := by
            show _ ∧ _
            unfold lenV lenB; rw [HO.out, ← HR.out, HU.out, HS.out, if_pos (Or.inl d0)]; exact ⟨rfl, rfl⟩
          clear HS HU HR HO
          go_wp2
          go_ret2
          exact ⟨by rw [HF.out.1, HF.out.2]; rfl, rfl⟩
        by_cases d1 : 57 < c
        · have HF : Hid (lenV t = 0 ∧ lenB t = false) := by
            show _ ∧ _
            unfold lenV lenB; rw [HO.out, ← HR.out, HU.out, HS.out, if_pos (Or.inr d1)]; exact ⟨rfl, rfl⟩
          clear HS HU HR HO
          go_wp2
          go_ret2
          exact ⟨by rw [HF.out.1, HF.out.2]; rfl, rfl⟩
        · have HF : Hid (lenR t (t.size - (k + 1)) (k + 1) (10 * n + (c - 48)) = lenR t t.size 0 0) := by
            show _ = _
            rw [← HR.out, HU.out, HS.out, if_neg (by omega)]
          have hn : 10 * n + (c - 48) ≤ 999 ∧ 0 ≤ 10 * n + (c - 48) := by
            have := HB.out
            omega
          have HB2 : Hid ((k + 1 = 0 ∧ 10 * n + (c - 48) = 0) ∨ (k + 1 = 1 ∧ 10 * n + (c - 48) ≤ 9) ∨ (k + 1 = 2 ∧ 10 * n + (c - 48) ≤ 99) ∨ (k + 1 = 3 ∧ 10 * n + (c - 48) ≤ 999)) := by
            have := HB.out
            show _ ∨ _
            omega
          have u1 : IntKind.u8.wrap (c - 48) = c - 48 := by simp [IntKind.wrap, IntKind.bits, IntKind.signed]; omega
          obtain ⟨hn1, hn2⟩ := hn
          clear HS HU HR HO HB
          go_wp2
          go_roundw
          case rel => exact ⟨k + 1, 10 * n + (c - 48), rfl, by go_num, by omega, hn2, hn1, HB2, HF, trivial⟩
          case measure => simp [intOf]; omega
      · have HF : Hid (lenV t = n ∧ lenB t = true) := by
          show _ ∧ _
          have e : t.size - k = 0 := by omega
          unfold lenV lenB; rw [HO.out, ← HR.out, e]; exact ⟨rfl, rfl⟩
        have hk2 : ¬ (k : Int) < (t.size : Int) := by omega
        clear HR HO HB
        go_wp2
        go_ret2
        exact ⟨by rw [HF.out.1, HF.out.2]; rfl, rfl⟩

def ppE (F : Int) (s : ByteArray) : Int := if apE F (headS s) = 0 then (if lenB (tailS s) = true then checkE F (apV F (headS s)) (lenV (tailS s)) else 12) else apE F (headS s)
def ppV (F : Int) (s : ByteArray) : BitVec 128 := if ppE F s = 0 then apV F (headS s) else 0#128
def ppN (F : Int) (s : ByteArray) : Int := if ppE F s = 0 then lenV (tailS s) else 0
theorem ext_le (s : ByteArray) (a b : Nat) : (s.extract a b).size ≤ s.size := by rw [ByteArray.size_extract]; omega
theorem headS_le (s : ByteArray) : (headS s).size ≤ s.size := by
  unfold headS; split
  · exact Nat.le_refl _
  · exact ext_le _ _ _
theorem tailS_le (s : ByteArray) : (tailS s).size ≤ s.size := by
  unfold tailS; split
  · exact Nat.zero_le _
  · exact ext_le _ _ _
set_option maxHeartbeats 2000000 in
theorem pparse_any (F : Int) (s : ByteArray) (w : World) (hs : s.size ≤ maxLen) :
    Calls Try.prog 65 #[.int .i64 F, .string s] w fun e w' => e = .returned (.tuple #[.agg #[.int .u64 (hI (ppV F s)), .int .u64 (lI (ppV F s)), .int .i64 (ppN F s)], .int .i64 (ppE F s)]) ∧ Below w.heap.size w w' := by
  have KU := fun w => scut_any s w hs
  have KA := fun w => aparse_any F (headS s) w (Nat.le_trans (headS_le s) hs)
  have KL := fun w => plength_any (tailS s) w (Nat.le_trans (tailS_le s) hs)
  have KC := fun w => pcheck_any F (apV F (headS s)) (lenV (tailS s)) w
  unfold ppV ppN ppE
  generalize checkE F (apV F (headS s)) (lenV (tailS s)) = c at *
  generalize apE F (headS s) = e0 at *
  generalize apV F (headS s) = x at *
  generalize lenV (tailS s) = n at *
  generalize lenB (tailS s) = b at *
  generalize headS s = h at *
  generalize tailS s = t at *
  generalize decide (ixS s ≠ -1) = i at *
  by_cases h0 : e0 = 0
  · subst h0
    rw [if_pos rfl]
    cases b
    · rw [if_neg (show ¬ (false = true) by decide), if_neg (show ¬ ((12 : Int) = 0) by decide), if_neg (show ¬ ((12 : Int) = 0) by decide), hI_zero, lI_zero]
      go_enter Try.func65, Try.ntmps65
      go_wp2_with fail
      refine (KU _).mono ?_
      rintro e w1 ⟨rfl, hb1⟩
      have Z1 := (atp_new w w.heap.size 0#128 0 38 rfl).below hb1
      have kB1 := keepb hb1 (bl1 w _)
      clear hb1 KU
      go_wp2_with fail
      refine (KA _).mono ?_
      rintro e w2 ⟨rfl, hb2⟩
      have Z2 := (Z1.below hb2).below (bl1 _ (.cells #[.int .u64 (hI x), .int .u64 (lI x)] 36))
      have kB2 := (keepb hb2 kB1).alloc (keepb hb2 kB1).size (.cells #[.int .u64 (hI x), .int .u64 (lI x)] 36)
      clear hb2 KA Z1 kB1
      go_wp2_with fail
      refine (KL _).mono ?_
      rintro e w3 ⟨rfl, rfl⟩
      obtain ⟨z0, z1, z2, z3, z4, z5⟩ := Z2
      clear KL
      go_wp2
      exact bodyPost_ret (v := .tuple #[.agg #[.int .u64 0, .int .u64 0, .int .i64 0], .int .i64 12]) (by simp [results, Try.results65, go_sem, *]) rfl ⟨rfl, bset3 kB2 (Nat.le_refl _) _ _ _⟩
    · rw [if_pos rfl]
      by_cases hc : c = 0
      · subst hc
        rw [if_pos rfl, if_pos rfl]
        go_enter Try.func65, Try.ntmps65
        go_wp2_with fail
        refine (KU _).mono ?_
        rintro e w1 ⟨rfl, hb1⟩
        have Z1 := (atp_new w w.heap.size 0#128 0 38 rfl).below hb1
        have kB1 := keepb hb1 (bl1 w _)
        clear hb1 KU
        go_wp2_with fail
        refine (KA _).mono ?_
        rintro e w2 ⟨rfl, hb2⟩
        have Z2 := (Z1.below hb2).below (bl1 _ (.cells #[.int .u64 (hI x), .int .u64 (lI x)] 36))
        have kB2 := (keepb hb2 kB1).alloc (keepb hb2 kB1).size (.cells #[.int .u64 (hI x), .int .u64 (lI x)] 36)
        clear hb2 KA Z1 kB1
        go_wp2_with fail
        refine (KL _).mono ?_
        rintro e w3 ⟨rfl, rfl⟩
        clear KL
        have Z3 := Z2.below (bl1 _ (.cells #[.int .u64 (hI x), .int .u64 (lI x), .int .i64 n] 38))
        have C3 := atp_new (w2.alloc (.cells #[.int .u64 (hI x), .int .u64 (lI x)] 36)) (w2.heap.size + 1) x n 38 (by simp)
        have kB3 := kB2.alloc kB2.size (.cells #[.int .u64 (hI x), .int .u64 (lI x), .int .i64 n] 38)
        clear Z2 kB2
        go_wp2_with fail
        refine (KC _).mono ?_
        rintro e w4 ⟨rfl, hb4⟩
        obtain ⟨z0, z1, z2, z3, z4, z5⟩ := Z3.below hb4
        obtain ⟨c0, c1, c2, -, -, -⟩ := C3.below hb4
        have kB4 := keepb hb4 kB3
        clear KC Z3 C3 kB3 hb4
        go_wp2
        exact bodyPost_ret (v := .tuple #[.agg #[.int .u64 (hI x), .int .u64 (lI x), .int .i64 n], .int .i64 0]) (by simp [results, Try.results65, go_sem, *]) rfl ⟨rfl, bset3 kB4 (Nat.le_refl _) _ _ _⟩
      · have hcb : (c != 0) = true := by simp [hc]
        rw [if_neg hc, if_neg hc, hI_zero, lI_zero]
        go_enter Try.func65, Try.ntmps65
        go_wp2_with fail
        refine (KU _).mono ?_
        rintro e w1 ⟨rfl, hb1⟩
        have Z1 := (atp_new w w.heap.size 0#128 0 38 rfl).below hb1
        have kB1 := keepb hb1 (bl1 w _)
        clear hb1 KU
        go_wp2_with fail
        refine (KA _).mono ?_
        rintro e w2 ⟨rfl, hb2⟩
        have Z2 := (Z1.below hb2).below (bl1 _ (.cells #[.int .u64 (hI x), .int .u64 (lI x)] 36))
        have kB2 := (keepb hb2 kB1).alloc (keepb hb2 kB1).size (.cells #[.int .u64 (hI x), .int .u64 (lI x)] 36)
        clear hb2 KA Z1 kB1
        go_wp2_with fail
        refine (KL _).mono ?_
        rintro e w3 ⟨rfl, rfl⟩
        clear KL
        have Z3 := Z2.below (bl1 _ (.cells #[.int .u64 (hI x), .int .u64 (lI x), .int .i64 n] 38))
        have C3 := atp_new (w2.alloc (.cells #[.int .u64 (hI x), .int .u64 (lI x)] 36)) (w2.heap.size + 1) x n 38 (by simp)
        have kB3 := kB2.alloc kB2.size (.cells #[.int .u64 (hI x), .int .u64 (lI x), .int .i64 n] 38)
        clear Z2 kB2
        go_wp2_with fail
        refine (KC _).mono ?_
        rintro e w4 ⟨rfl, hb4⟩
        obtain ⟨z0, z1, z2, z3, z4, z5⟩ := Z3.below hb4
        have kB4 := keepb hb4 kB3
        clear KC Z3 C3 kB3 hb4
        go_wp2
        exact bodyPost_ret (v := .tuple #[.agg #[.int .u64 0, .int .u64 0, .int .i64 0], .int .i64 c]) (by simp [results, Try.results65, go_sem, *]) rfl ⟨rfl, bset3 kB4 (Nat.le_refl _) _ _ _⟩
  · have hb : (e0 != 0) = true := by simp [h0]
    rw [if_neg h0, if_neg h0, if_neg h0, hI_zero, lI_zero]
    go_enter Try.func65, Try.ntmps65
    go_wp2_with fail
    refine (KU _).mono ?_
    rintro e w1 ⟨rfl, hb1⟩
    have Z1 := (atp_new w w.heap.size 0#128 0 38 rfl).below hb1
    have kB1 := keepb hb1 (bl1 w _)
    clear hb1 KU
    go_wp2_with fail
    refine (KA _).mono ?_
    rintro e w2 ⟨rfl, hb2⟩
    obtain ⟨z0, z1, z2, z3, z4, z5⟩ := (Z1.below hb2).below (bl1 _ (.cells #[.int .u64 (hI x), .int .u64 (lI x)] 36))
    have kB2 := (keepb hb2 kB1).alloc (keepb hb2 kB1).size (.cells #[.int .u64 (hI x), .int .u64 (lI x)] 36)
    clear hb2 KA Z1 kB1
    go_wp2
    exact bodyPost_ret (v := .tuple #[.agg #[.int .u64 0, .int .u64 0, .int .i64 0], .int .i64 e0]) (by simp [results, Try.results65, go_sem, *]) rfl ⟨rfl, bset3 kB2 (Nat.le_refl _) _ _ _⟩
end Go.Proofs.Ytohnhpicjedfeaa
namespace Go.Proofs.Ytohnhpicjedfeaa
open Go.RowKit
set_option linter.unusedSimpArgs false
set_option linter.unusedVariables false

def kdS (s : ByteArray) (k : Nat) : Int := if k = s.size then 2 else if byteAt s k = 32 ∨ byteAt s k = 9 then 1 else if byteAt s k = 35 ∨ byteAt s k = 10 then 2 else 0
theorem kdS_end (s : ByteArray) : kdS s s.size = 2 := by unfold kdS; rw [if_pos rfl]
theorem kdS_in {s : ByteArray} {k : Nat} (h : ¬ kdS s k = 2) (hk : k ≤ s.size) : k < s.size := by
  apply Classical.byContradiction; intro q
  have : k = s.size := by omega
  rw [this, kdS_end] at h
  exact h rfl
theorem kdS_ways (s : ByteArray) (k : Nat) : kdS s k = 0 ∨ kdS s k = 1 ∨ kdS s k = 2 := by
  unfold kdS
  split
  · exact .inr (.inr rfl)
  · split
    · exact .inr (.inl rfl)
    · split
      · exact .inr (.inr rfl)
      · exact .inl rfl
def skB (s : ByteArray) : Nat → Nat → Nat
  | 0, k => k
  | f + 1, k => if kdS s k = 1 then skB s f (k + 1) else k
def skS (s : ByteArray) (k : Nat) : Nat := skB s (s.size - k) k
def wdB (s : ByteArray) : Nat → Nat → Nat
  | 0, k => k
  | f + 1, k => if kdS s k = 0 then wdB s f (k + 1) else k
def wdS (s : ByteArray) (k : Nat) : Nat := wdB s (s.size - k) k
theorem skS_go {s : ByteArray} {k : Nat} (hk : k ≤ s.size) (h : kdS s k = 1) : skS s k = skS s (k + 1) := by
  have := kdS_in (s := s) (k := k) (by omega) hk
  unfold skS
  rw [show s.size - k = (s.size - (k + 1)) + 1 by omega]
  show (if kdS s k = 1 then _ else _) = _
  rw [if_pos h]
theorem skS_here {s : ByteArray} {k : Nat} (h : ¬ kdS s k = 1) : skS s k = k := by
  unfold skS
  match hf : s.size - k with
  | 0 => rfl
  | f + 1 => show (if kdS s k = 1 then _ else _) = _; rw [if_neg h]
theorem wdS_go {s : ByteArray} {k : Nat} (hk : k ≤ s.size) (h : kdS s k = 0) : wdS s k = wdS s (k + 1) := by
  have := kdS_in (s := s) (k := k) (by omega) hk
  unfold wdS
  rw [show s.size - k = (s.size - (k + 1)) + 1 by omega]
  show (if kdS s k = 0 then _ else _) = _
  rw [if_pos h]
theorem wdS_here {s : ByteArray} {k : Nat} (h : ¬ kdS s k = 0) : wdS s k = k := by
  unfold wdS
  match hf : s.size - k with
  | 0 => rfl
  | f + 1 => show (if kdS s k = 0 then _ else _) = _; rw [if_neg h]
theorem skS_bd (s : ByteArray) : ∀ (d k : Nat), s.size - k ≤ d → k ≤ s.size → k ≤ skS s k ∧ skS s k ≤ s.size ∧ ¬ kdS s (skS s k) = 1
  | d, k, hd, hk => by
    by_cases h : kdS s k = 1
    · have := kdS_in (s := s) (k := k) (by omega) hk
      rw [skS_go hk h]
      match d, hd with
      | d + 1, hd =>
        have q := skS_bd s d (k + 1) (by omega) (by omega)
        exact ⟨by omega, q.2.1, q.2.2⟩
      | 0, hd => omega
    · rw [skS_here h]; exact ⟨Nat.le_refl _, hk, h⟩
theorem wdS_bd (s : ByteArray) : ∀ (d k : Nat), s.size - k ≤ d → k ≤ s.size → k ≤ wdS s k ∧ wdS s k ≤ s.size ∧ ¬ kdS s (wdS s k) = 0
  | d, k, hd, hk => by
    by_cases h : kdS s k = 0
    · have := kdS_in (s := s) (k := k) (by omega) hk
      rw [wdS_go hk h]
      match d, hd with
      | d + 1, hd =>
        have q := wdS_bd s d (k + 1) (by omega) (by omega)
        exact ⟨by omega, q.2.1, q.2.2⟩
      | 0, hd => omega
    · rw [wdS_here h]; exact ⟨Nat.le_refl _, hk, h⟩
def nhR (t : ByteArray) : Nat → Nat → Int → Option Int
  | 0, _, n => some n
  | f + 1, k, n => if byteAt t k < 48 ∨ 57 < byteAt t k then none else if hopB (10 * n + (byteAt t k - 48)) = true then nhR t f (k + 1) (10 * n + (byteAt t k - 48)) else none
def nhO (t : ByteArray) : Option Int := nhR t t.size 0 0
def entO (F : Int) (s : ByteArray) (a : Nat) : (Int × Nat) ⊕ (Rte × Nat) :=
  if ppE F (s.extract a (wdS s a)) = 0 then
    (if kdS s (skS s (wdS s a)) = 0 then
      (match nhO (s.extract (skS s (wdS s a)) (wdS s (skS s (wdS s a)))) with
        | none => .inl (15, skS s (wdS s a))
        | some h => if kdS s (skS s (wdS s (skS s (wdS s a)))) = 0 then .inl (12, skS s (wdS s (skS s (wdS s a)))) else .inr (((ppV F (s.extract a (wdS s a)), ppN F (s.extract a (wdS s a))), h), skS s (wdS s (skS s (wdS s a)))))
    else .inl (12, skS s (wdS s a)))
  else .inl (ppE F (s.extract a (wdS s a)), a)
def nlS (s : ByteArray) (k : Nat) : Int := Lib.indexByte (s.extract k s.size).data.toList 10
theorem nlS_bd (s : ByteArray) (k : Nat) (hk : k ≤ s.size) : nlS s k = -1 ∨ (0 ≤ nlS s k ∧ (k : Int) + nlS s k < s.size) := by
  have := indexByte_bd 10 (s.extract k s.size).data.toList
  have e : (s.extract k s.size).data.toList.length = s.size - k := by
    have q : (s.extract k s.size).size = min s.size s.size - k := ByteArray.size_extract
    rw [Array.length_toList]
    show (s.extract k s.size).size = _
    omega
  rw [e] at this
  unfold nlS
  omega
end Go.Proofs.Ytohnhpicjedfeaa
namespace Go.Proofs.Ytohnhpicjedfeaa
open Go.RowKit
set_option linter.unusedSimpArgs false
set_option linter.unusedVariables false

theorem eqP_run (x : BitVec 128) (n : Int) (y : BitVec 128) (m : Int) (w : World) :
    (Op.equalIn 10000 38 (.agg #[.int .u64 (hI x), .int .u64 (lI x), .int .i64 n]) (.agg #[.int .u64 (hI y), .int .u64 (lI y), .int .i64 m])).run Try.prog w = .ok ((x == y) && (n == m)) w := by
  rcases eqw x y with ⟨q1, q2, q3⟩ | ⟨q1, q3⟩ | ⟨q1, q2, q3⟩
  all_goals
    rw [q3]
    go_simp
    try simp [*]
    try (by_cases e : n = m <;> simp [e])
end Go.Proofs.Ytohnhpicjedfeaa
namespace Go.Proofs.Ytohnhpicjedfeaa
open Go.RowKit
set_option linter.unusedSimpArgs false
set_option linter.unusedVariables false

theorem At.drew {w : World} {B : Nat} {x : BitVec 128} (h : At w B x) : At w.drew B x := h
end Go.Proofs.Ytohnhpicjedfeaa
namespace Go.Proofs.Ytohnhpicjedfeaa
open Go.RowKit
set_option linter.unusedSimpArgs false
set_option linter.unusedVariables false

abbrev Sg := (BitVec 128 × BitVec 128) × Int
def AtG (w : World) (B : Nat) (x y : BitVec 128) (h : Int) : Prop := w.cell? ⟨B, 0, none⟩ = some (.int .u64 (hI x)) ∧ w.cell? ⟨B, 1, none⟩ = some (.int .u64 (lI x)) ∧ w.cell? ⟨B, 2, none⟩ = some (.int .u64 (hI y)) ∧ w.cell? ⟨B, 3, none⟩ = some (.int .u64 (lI y)) ∧ w.cell? ⟨B, 4, none⟩ = some (.int .i64 h) ∧ w.frozen? ⟨B, 0, none⟩ = false ∧ w.frozen? ⟨B, 1, none⟩ = false ∧ w.frozen? ⟨B, 2, none⟩ = false ∧ w.frozen? ⟨B, 3, none⟩ = false ∧ w.frozen? ⟨B, 4, none⟩ = false
theorem AtG.below {w w' : World} {B : Nat} {x y : BitVec 128} {h : Int} (g : AtG w B x y h) (hb : Below w.heap.size w w') : AtG w' B x y h := by
  obtain ⟨a0, a1, a2, a3, a4, b0, b1, b2, b3, b4⟩ := g
  exact ⟨keepc hb a0, keepc hb a1, keepc hb a2, keepc hb a3, keepc hb a4, keepf hb a0 b0, keepf hb a1 b1, keepf hb a2 b2, keepf hb a3 b3, keepf hb a4 b4⟩
theorem AtG.lt {W : World} {B : Nat} {x y : BitVec 128} {h : Int} (g : AtG W B x y h) : B < W.heap.size := cell_in g.1
def rowG : List Sg → List Value
  | [] => []
  | p :: l => .int .u64 (hI p.1.1) :: .int .u64 (lI p.1.1) :: .int .u64 (hI p.1.2) :: .int .u64 (lI p.1.2) :: .int .i64 p.2 :: rowG l
def RwG (W : World) (v : Value) (l : List Sg) : Prop := ∃ ao c, v = .slice ao l.length c ∧ (l = [] ∨ ∃ b off, ao = some ⟨b, off, none⟩ ∧ ∀ j u, (rowG l)[j]? = some u → W.cell? ⟨b, off + j, none⟩ = some u)
theorem RwG.below {W W' : World} {v : Value} {l : List Sg} (h : RwG W v l) (hb : Below W.heap.size W W') : RwG W' v l := by
  obtain ⟨ao, c, e, h⟩ := h
  refine ⟨ao, c, e, h.imp id ?_⟩
  rintro ⟨b, off, e', hc⟩
  exact ⟨b, off, e', fun j u hj => keepc hb (hc j u hj)⟩
end Go.Proofs.Ytohnhpicjedfeaa
namespace Go.Proofs.Ytohnhpicjedfeaa
open Go.RowKit
set_option linter.unusedSimpArgs false
set_option linter.unusedVariables false

theorem cellH {W W' : World} {B : Nat} (e : W'.heap[B]? = W.heap[B]?) (o : Nat) : W'.cell? ⟨B, o, none⟩ = W.cell? ⟨B, o, none⟩ := World.cell?_of_block (w := W) (a := ⟨B, o, none⟩) e
theorem frozH {W W' : World} {B : Nat} (e : W'.heap[B]? = W.heap[B]?) (o : Nat) : W'.frozen? ⟨B, o, none⟩ = W.frozen? ⟨B, o, none⟩ := World.frozen?_of_block (w := W) (a := ⟨B, o, none⟩) e
theorem AtG.heap {W W' : World} {B : Nat} {x y : BitVec 128} {h : Int} (k : AtG W B x y h) (e : W'.heap[B]? = W.heap[B]?) : AtG W' B x y h := by
  unfold AtG at *
  simpa only [cellH e, frozH e] using k
theorem At.heap {W W' : World} {B : Nat} {x : BitVec 128} (k : At W B x) (e : W'.heap[B]? = W.heap[B]?) (hs : W.heap.size ≤ W'.heap.size) : At W' B x := by
  unfold At at *
  simp only [cellH e, frozH e]
  exact ⟨k.1, k.2.1, k.2.2.1, k.2.2.2.1, by omega⟩
theorem AtR.heap {W W' : World} {B : Nat} {x : BitVec 128} {n h : Int} (k : AtR W B x n h) (e : W'.heap[B]? = W.heap[B]?) : AtR W' B x n h := by
  unfold AtR at *
  simpa only [cellH e] using k
def AtU (W : World) (B : Nat) (F : Int) (v : Value) : Prop := W.cell? ⟨B, 0, none⟩ = some (.int .i64 F) ∧ W.cell? ⟨B, 1, none⟩ = some v ∧ W.frozen? ⟨B, 0, none⟩ = false ∧ W.frozen? ⟨B, 1, none⟩ = false
theorem AtU.heap {W W' : World} {B : Nat} {F : Int} {v : Value} (k : AtU W B F v) (e : W'.heap[B]? = W.heap[B]?) : AtU W' B F v := by
  unfold AtU at *
  simpa only [cellH e, frozH e] using k
theorem AtU.lt {W : World} {B : Nat} {F : Int} {v : Value} (k : AtU W B F v) : B < W.heap.size := cell_in k.1
theorem own_heap {W W' : World} {base e size n : Nat} {v : Value} {xs : List Value} (h : W.ownsRow base e size v n xs) (he : ∀ g, v.ownBlock = some g → W'.heap[g]? = W.heap[g]?) : W'.ownsRow base e size v n xs := by
  refine ⟨h.1, ?_⟩
  rcases h.2 with hn | ⟨g, cap, cur, rfl, hb, hg, rest⟩
  · exact .inl hn
  · exact .inr ⟨g, cap, cur, rfl, hb, by rw [he g rfl]; exact hg, rest⟩
theorem hAl {W : World} (o : Obj) {k : Nat} (h : k < W.heap.size) : (W.alloc o).heap[k]? = W.heap[k]? := Below.heap_alloc W o k h
theorem hSet {W : World} {b o : Nat} (u : Value) {k : Nat} (h : ¬ k = b) : (W.setCell ⟨b, o, none⟩ u).heap[k]? = W.heap[k]? := Below.heap_setCell W ⟨b, o, none⟩ u k h
theorem own_wide {w : World} {base base' e size n : Nat} {v : Value} {xs : List Value} (h : w.ownsRow base e size v n xs) (hb : base' ≤ base) : w.ownsRow base' e size v n xs := by
  refine ⟨h.1, ?_⟩
  rcases h.2 with hn | ⟨g, cap, cur, hv, h1, h2⟩
  · exact .inl hn
  · exact .inr ⟨g, cap, cur, hv, by omega, h2⟩
end Go.Proofs.Ytohnhpicjedfeaa
namespace Go.Proofs.Ytohnhpicjedfeaa
open Go.RowKit
set_option linter.unusedSimpArgs false
set_option linter.unusedVariables false

def LS (w : World) (x : BitVec 128) (n : Int) (W : World) : Prop := AtP W w.heap.size x n ∧ At W (w.heap.size + 1) 0#128 ∧ Below w.heap.size w W
theorem LS.below {w W W' : World} {x : BitVec 128} {n : Int} (h : LS w x n W) (hb : Below W.heap.size W W') : LS w x n W' := ⟨h.1.below hb, h.2.1.below hb, keepb hb h.2.2⟩
theorem LS.al {w W : World} {x : BitVec 128} {n : Int} (h : LS w x n W) (o : Obj) : LS w x n (W.alloc o) := h.below (bl1 W o)
theorem LS.drew {w W : World} {x : BitVec 128} {n : Int} (h : LS w x n W) : LS w x n W.drew := ⟨h.1, h.2.1, h.2.2.drew⟩
theorem LS.set {w W : World} {x : BitVec 128} {n : Int} (h : LS w x n W) {N : Nat} (hN : w.heap.size + 1 < N) (u v : Value) : LS w x n ((W.setCell ⟨N, 0, none⟩ u).setCell ⟨N, 1, none⟩ v) := by
  obtain ⟨⟨a0, a1, a2, a3, a4, a5⟩, h2, h3⟩ := h
  have d0 : ¬ N = w.heap.size := by omega
  have d1 : ¬ w.heap.size = N := by omega
  refine ⟨?_, h2.other u v (by omega), bset2 h3 (by omega) _ _⟩
  refine ⟨?_, ?_, ?_, ?_, ?_, ?_⟩ <;> simp [go_sem, *]
end Go.Proofs.Ytohnhpicjedfeaa
namespace Go.Proofs.Ytohnhpicjedfeaa
set_option linter.unusedSimpArgs false
set_option linter.unusedVariables false

end Go.Proofs.Ytohnhpicjedfeaa
namespace Go.Proofs.Ytohnhpicjedfeaa
open Go.RowKit
set_option linter.unusedSimpArgs false
set_option linter.unusedVariables false

end Go.Proofs.Ytohnhpicjedfeaa
namespace Go.Proofs.Ytohnhpicjedfeaa
open Go.RowKit
set_option linter.unusedSimpArgs false
set_option linter.unusedVariables false

structure Bt (M : Nat → Prop) (V W : World) : Prop where
  os : W.os = V.os
  tape : W.tape = V.tape
  output : W.output = V.output
  size : V.heap.size ≤ W.heap.size
  blk : ∀ z, z < V.heap.size → ¬ M z → W.heap[z]? = V.heap[z]?
theorem Bt.refl (M : Nat → Prop) (V : World) : Bt M V V := ⟨rfl, rfl, rfl, Nat.le_refl _, fun _ _ _ => rfl⟩
theorem Bt.below {M : Nat → Prop} {V W W' : World} (h : Bt M V W) {B : Nat} (hb : Below B W W') (hB : V.heap.size ≤ B) : Bt M V W' :=
  ⟨by rw [hb.os, h.os], by rw [hb.tape, h.tape], by rw [hb.output, h.output], Nat.le_trans h.size hb.size, fun z h1 h2 => by rw [hb.block z (by omega), h.blk z h1 h2]⟩
theorem Bt.set {M : Nat → Prop} {V W : World} (h : Bt M V W) {g : Nat} (hg : M g ∨ V.heap.size ≤ g) (o : Nat) (u : Value) : Bt M V (W.setCell ⟨g, o, none⟩ u) := by
  have b : Below 0 W (W.setCell ⟨g, o, none⟩ u) := (Below.refl _ _).setCell (Nat.zero_le _) u
  refine ⟨by rw [b.os, h.os], by rw [b.tape, h.tape], by rw [b.output, h.output], Nat.le_trans h.size b.size, fun z h1 h2 => ?_⟩
  rw [hSet _ (fun e => ?_), h.blk z h1 h2]
  rcases hg with q | q
  · exact h2 (by rw [e]; exact q)
  · omega
theorem Bt.grown {M : Nat → Prop} {V W W' : World} (h : Bt M V W) {r : Option Nat} (hg : W.grownBy W' r) (hr : ∀ z, r = some z → M z ∨ V.heap.size ≤ z) : Bt M V W' :=
  ⟨by rw [hg.os, h.os], by rw [hg.tape, h.tape], by rw [hg.output, h.output], Nat.le_trans h.size hg.size, fun z h1 h2 => by
    rw [hg.block z (by have := h.size; omega) (fun e => ?_), h.blk z h1 h2]
    rcases hr z e.symm with q | q
    · exact h2 q
    · omega⟩
theorem Bt.low {M : Nat → Prop} {w V W : World} (h : Bt M V W) (hb : Below w.heap.size w V) (hM : ∀ z, M z → w.heap.size ≤ z) : Below w.heap.size w W :=
  ⟨by rw [h.os, hb.os], by rw [h.tape, hb.tape], by rw [h.output, hb.output], Nat.le_trans hb.size h.size, fun z hz => by
    rw [h.blk z (by have := hb.size; omega) (fun q => by have := hM z q; omega), hb.block z hz]⟩
theorem own_any {W : World} {base e size n g cap : Nat} {xs : List Value} (h : W.ownsRow base e size (.slice (some ⟨g, 0, none⟩) n cap) n xs) (j : Nat) (hj : j < n * size) : (∃ u, W.cell? ⟨g, j, none⟩ = some u) ∧ W.frozen? ⟨g, j, none⟩ = false := by
  refine ⟨?_, h.frozenAt j⟩
  rw [h.cellAt j hj]
  exact ⟨_, List.getElem?_eq_getElem (by rw [h.1]; exact hj)⟩
end Go.Proofs.Ytohnhpicjedfeaa
namespace Go.Proofs.Ytohnhpicjedfeaa
open Go.RowKit
set_option linter.unusedSimpArgs false
set_option linter.unusedVariables false

section
variable {P : Program}

end
end Go.Proofs.Ytohnhpicjedfeaa
namespace Go.Proofs.Ytohnhpicjedfeaa
open Go.RowKit Go.Shelf
set_option linter.unusedSimpArgs false
set_option linter.unusedVariables false

section
variable {P : Program}
def postX {α : Type} (B : Nat) (Kp : World → World → Prop) (I : List α → World → Prop) (Ix : Code → List α → World → Prop) (xs : List α) (W : World) : Exit → Act → World → Prop
  | .normal, _, W' => KeepsFrom B W W' ∧ Kp W W' ∧ I xs W'
  | .ret, _, W' => KeepsFrom B W W' ∧ Kp W W' ∧ Ix .ret xs W'
  | .exit id, _, W' => KeepsFrom B W W' ∧ Kp W W' ∧ Ix (.exit id) xs W'
  | .goto t, _, W' => KeepsFrom B W W' ∧ Kp W W' ∧ Ix (.goto t) xs W'
  | .panic _, _, _ => False
  | .outgrown, _, _ => False
structure Bk (B : Nat) (r : Loop) (W : World) : Prop where
  rec' : W.heap[B + 1]? = some (.loop r)
  dfr : W.heap[B]? = some (.deferred (some []))
theorem Bk.lt {B : Nat} {r : Loop} {W : World} (k : Bk B r W) : B + 1 < W.heap.size := (Array.getElem?_eq_some_iff.1 k.rec').1
theorem Bk.from {B : Nat} {r : Loop} {W W' : World} (k : Bk B r W) (h : KeepsFrom B W W') : Bk B r W' := ⟨h.same _ _ (by omega) k.rec' rfl, h.same _ _ (Nat.le_refl _) k.dfr rfl⟩
theorem Bk.turn {B : Nat} {r : Loop} {W : World} (k : Bk B r W) (r' : Loop) : Bk B r' (W.putObj (B + 1) (.loop r')) := ⟨World.putObj_heap_same k.lt, (World.putObj_heap_other (by omega)).trans k.dfr⟩
theorem Bk.grown {B : Nat} {r : Loop} {W W' : World} {row : Option Nat} (k : Bk B r W) (h : W.grownBy W' row) (hr : ∀ z, row = some z → B + 2 ≤ z) : Bk B r W' := by
  have hl := k.lt
  exact ⟨(h.block _ hl (fun e => by have := hr _ e.symm; omega)).trans k.rec', (h.block _ (by omega) (fun e => by have := hr _ e.symm; omega)).trans k.dfr⟩
theorem bk_end {B : Nat} {r : Loop} {W : World} (k : Bk B r W) (jump : Option Code) : (Instr.endRound (B + 1) jump).run P W = .ok (.bool jump.isNone) (W.putObj (B + 1) (.loop { r with state := if jump.isNone then .ready else .done, pending := jump })) := run_endRound jump k.rec'
def KW (Z : Nat → Prop) (B : Nat) (W W' : World) : Prop := W.heap.size ≤ W'.heap.size ∧ ∀ (z : Nat) (o : Obj), W.heap[z]? = some o → (Z z ∨ B ≤ z) → W'.heap[z]? = some o
theorem KW.trans {Z : Nat → Prop} {B : Nat} {X Y V : World} (h : KW Z B X Y) (g : KW Z B Y V) : KW Z B X V := ⟨Nat.le_trans h.1 g.1, fun z o h1 h2 => g.2 z o (h.2 z o h1 h2) h2⟩
theorem KW.refl (Z : Nat → Prop) (B : Nat) (W : World) : KW Z B W W := ⟨Nat.le_refl _, fun _ _ h _ => h⟩
end
end Go.Proofs.Ytohnhpicjedfeaa
namespace Go.Proofs.Ytohnhpicjedfeaa
open Go.RowKit Go.Shelf
set_option linter.unusedSimpArgs false
set_option linter.unusedVariables false

def Cl1 (W : World) (B : Nat) (v : Value) : Prop := W.cell? ⟨B, 0, none⟩ = some v ∧ W.frozen? ⟨B, 0, none⟩ = false
theorem Cl1.below {W W' : World} {B : Nat} {v : Value} (k : Cl1 W B v) (hb : Below W.heap.size W W') : Cl1 W' B v := ⟨keepc hb k.1, keepf hb k.1 k.2⟩
theorem Cl1.heap {W W' : World} {B : Nat} {v : Value} (k : Cl1 W B v) (e : W'.heap[B]? = W.heap[B]?) : Cl1 W' B v := ⟨(World.cell?_of_block (a := ⟨B, 0, none⟩) e).trans k.1, (World.frozen?_of_block (a := ⟨B, 0, none⟩) e).trans k.2⟩
theorem Cl1.set {W : World} {B : Nat} {v : Value} (k : Cl1 W B v) (u : Value) : Cl1 (W.setCell ⟨B, 0, none⟩ u) B u := ⟨World.cell?_setCell_same' _ _ _ (by rw [k.1]; rfl), by rw [World.frozen?_setCell]; exact k.2⟩
theorem Cl1.lt {W : World} {B : Nat} {v : Value} (k : Cl1 W B v) : B < W.heap.size := cell_in k.1
theorem hSet6 {W : World} {b o : Nat} (u : Value) {k : Nat} (h : ¬ k = b) : (W.setCell ⟨b, o, none⟩ u).heap[k]? = W.heap[k]? := Below.heap_setCell W ⟨b, o, none⟩ u k h
theorem Cl1.kept {W W' : World} {B : Nat} {v : Value} (k : Cl1 W B v) {row : Option Nat} (hg : W.grownBy W' row) (hr : ∀ r, row = some r → ∃ o : Obj, W.heap[r]? = some o ∧ o.isCells = false) : Cl1 W' B v := ⟨cell_kept k.1 hg hr, (frozen_kept k.1 hg hr).trans k.2⟩
end Go.Proofs.Ytohnhpicjedfeaa
