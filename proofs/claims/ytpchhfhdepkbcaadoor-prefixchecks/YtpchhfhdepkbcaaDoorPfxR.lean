/-
  What the calls of strings.Cut at one byte, and of package prefix's length, do.
-/
import Derived.Test.YtpchhfhdepkbcaaDoorPfx2
import Derived.Test.YtpchhfhdepkbcaaDoorShelf
import Derived.Test.YtpchhfhdepkbcaaDoorAdrP
import Derived.Test.YtpchhfhdepkbcaaDoorRefV
import Derived.Shelf.Strings.Search1
namespace Go.Proofs.YtpchhfhdepkbcaaDoor
open Go.RowKit
set_option linter.unusedSimpArgs false
set_option linter.unusedVariables false

/-- Where the first slash is, -1 if there is none. -/
def ixS (s : ByteArray) : Int := Lib.indexByte s.data.toList 47
theorem indexByte_bd (c : UInt8) : ∀ l : List UInt8, Lib.indexByte l c = -1 ∨ (0 ≤ Lib.indexByte l c ∧ Lib.indexByte l c < l.length) := by
  intro l
  induction l with
  | nil => exact Or.inl rfl
  | cons b l ih =>
    unfold Lib.indexByte
    by_cases h : (b == c) = true
    · rw [if_pos h]; right; simp
    · rw [if_neg h]
      by_cases h1 : (Lib.indexByte l c == -1) = true
      · rw [if_pos h1]; left; rfl
      · rw [if_neg h1]
        rcases ih with e | e
        · simp [e] at h1
        · right; simp; omega
theorem ixS_bd (s : ByteArray) : ixS s = -1 ∨ (0 ≤ ixS s ∧ ixS s < s.size) := indexByte_bd 47 s.data.toList
theorem ixB_any (s : ByteArray) (w : World) :
    Calls Tryd.prog 114 #[.string s, .int .u8 47] w fun e w' => e = .returned (.int .i64 (ixS s)) ∧ w' = w :=
  Any.stringslite_IndexByte Tryd.lays217 s 47 w

def slash : ByteArray := ⟨#[47]⟩
set_option maxHeartbeats 1000000 in
set_option maxRecDepth 20000 in
theorem index1_any (s : ByteArray) (w : World) :
    Calls Tryd.prog 106 #[.string s, .string ⟨#[47]⟩] w fun e w' => e = .returned (.int .i64 (ixS s)) ∧ w' = w := by
  have KI := fun w => ixB_any s w
  cases hb : ([47] == s.toList)
  · go_enter Tryd.func106, Tryd.ntmps106
    go_wp2_with fail
    refine (KI _).mono ?_
    rintro e w1 ⟨rfl, rfl⟩
    go_wp2
    go_ret
    exact ⟨rfl, rfl⟩
  · have h : s = ⟨#[47]⟩ := by
      have h1 := eq_of_beq hb
      apply ByteArray.ext
      apply Array.ext'
      rw [ByteArray.toList_eq] at h1
      exact h1.symm
    subst h
    have hv : ixS ⟨#[47]⟩ = 0 := by decide
    rw [hv]
    clear hb KI hv
    go_enter Tryd.func106, Tryd.ntmps106
    go_wp2
    go_ret
    exact ⟨rfl, rfl⟩

theorem bdrewN {n : Nat} {w W : World} (h : Below n w W) (k : Nat) : Below n w (W.drewN k) := ⟨h.os, h.tape, h.output, h.size, h.block⟩
def headS (s : ByteArray) : ByteArray := if ixS s = -1 then s else s.extract 0 (ixS s).toNat
def tailS (s : ByteArray) : ByteArray := if ixS s = -1 then ⟨#[]⟩ else s.extract ((ixS s).toNat + 1) s.size
set_option maxHeartbeats 1000000 in
theorem lcut_any (s : ByteArray) (w : World) (hs : s.size ≤ maxLen) :
    Calls Tryd.prog 98 #[.string s, .string ⟨#[47]⟩] w fun e w' => e = .returned (.tuple #[.string (headS s), .string (tailS s), .bool (decide (ixS s ≠ -1))]) ∧ Below w.heap.size w w' := by
  have KI := fun w => index1_any s w
  have bd := ixS_bd s
  unfold maxLen at hs
  unfold headS tailS
  generalize ixS s = i at *
  by_cases h : i = -1
  · subst h
    rw [if_pos rfl, if_pos rfl]
    go_enter Tryd.func98, Tryd.ntmps98
    go_wp2_with fail
    refine (KI _).mono ?_
    rintro e w1 ⟨rfl, rfl⟩
    go_wp2
    exact bodyPost_ret (v := .tuple #[.string s, .string ⟨#[]⟩, .bool false]) (by simp [results, Tryd.results98, go_sem]) rfl ⟨by simp, Below.refl _ _⟩
  · obtain ⟨k, rfl⟩ : ∃ k : Nat, i = k := ⟨i.toNat, by omega⟩
    rw [if_neg h, if_neg h]
    have hk : k < s.size := by omega
    have hu : IntKind.i64.wrap ((k : Int) + 1) = (k : Int) + 1 := by rw [IntKind.wrap_i64]; omega
    have hk0 : (0 : Int) ≤ (k : Int) := by omega
    have hk1 : (k : Int) ≤ (s.size : Int) := by omega
    have hk2 : (k : Int) + 1 ≤ (s.size : Int) := by omega
    have hk3 : (0 : Int) ≤ (k : Int) + 1 := by omega
    have ht : ((k : Int) + 1).toNat = k + 1 := by omega
    go_enter Tryd.func98, Tryd.ntmps98
    go_wp2_with fail
    refine (KI _).mono ?_
    rintro e w1 ⟨rfl, rfl⟩
    go_wp2
    go_quiet (fail)
    go_wp2
    exact bodyPost_ret (v := .tuple #[.string (s.extract 0 k), .string (s.extract (k + 1) s.size), .bool true]) (by simp [results, Tryd.results98, go_sem]) rfl ⟨by simp, bdrewN (Below.refl _ _) _⟩
theorem scut_any (s : ByteArray) (w : World) (hs : s.size ≤ maxLen) :
    Calls Tryd.prog 86 #[.string s, .string ⟨#[47]⟩] w fun e w' => e = .returned (.tuple #[.string (headS s), .string (tailS s), .bool (decide (ixS s ≠ -1))]) ∧ Below w.heap.size w w' := by
  go_enter Tryd.func86, Tryd.ntmps86
  go_wp2_with fail
  refine (lcut_any s _ hs).mono ?_
  rintro e w1 ⟨rfl, hb1⟩
  go_wp2
  exact bodyPost_ret (v := .tuple #[.string (headS s), .string (tailS s), .bool (decide (ixS s ≠ -1))]) (by simp [results, Tryd.results86, go_sem]) rfl ⟨rfl, hb1⟩

/-- A prefix's length, read: from place k on, n being read. -/
def lenR (t : ByteArray) : Nat → Nat → Int → Option Int
  | 0, _, n => some n
  | f + 1, k, n => if byteAt t k < 48 ∨ 57 < byteAt t k then none else lenR t f (k + 1) (10 * n + (byteAt t k - 48))
def lenO (t : ByteArray) : Option Int := if t.size = 0 ∨ 3 < t.size ∨ (byteAt t 0 = 48 ∧ 1 < t.size) then none else lenR t t.size 0 0
def lenV (t : ByteArray) : Int := (lenO t).getD 0
def lenB (t : ByteArray) : Bool := (lenO t).isSome
set_option maxHeartbeats 1000000 in
theorem plength_any (t : ByteArray) (w : World) (hs : t.size ≤ maxLen) :
    Calls Tryd.prog 87 #[.string t] w fun e w' => e = .returned (.tuple #[.int .i64 (lenV t), .bool (lenB t)]) ∧ w' = w := by
  unfold maxLen at hs
  by_cases hz : t.size = 0
  · have he : t.toList.isEmpty = true := by rw [empty_is]; simp [hz]
    have HF : Hid (lenV t = 0 ∧ lenB t = false) := by
      show _ ∧ _
      unfold lenV lenB lenO; rw [if_pos (Or.inl hz)]; exact ⟨rfl, rfl⟩
    go_enter Tryd.func87, Tryd.ntmps87
    go_wp2
    go_ret2
    exact ⟨by rw [HF.out.1, HF.out.2]; rfl, rfl⟩
  have he : t.toList.isEmpty = false := by rw [empty_is]; simp [hz]
  by_cases h3 : (3 : Int) < (t.size : Int)
  · have HF : Hid (lenV t = 0 ∧ lenB t = false) := by
      show _ ∧ _
      unfold lenV lenB lenO; rw [if_pos (Or.inr (Or.inl (by omega)))]; exact ⟨rfl, rfl⟩
    go_enter Tryd.func87, Tryd.ntmps87
    go_wp2
    go_ret2
    exact ⟨by rw [HF.out.1, HF.out.2]; rfl, rfl⟩
  have hpos : 0 < t.size := by omega
  have hb0 := byteAt_in t 0 hpos
  by_cases h0 : byteAt t 0 = 48 ∧ 1 < t.size
  · have HF : Hid (lenV t = 0 ∧ lenB t = false) := by
      show _ ∧ _
      unfold lenV lenB lenO; rw [if_pos (Or.inr (Or.inr h0))]; exact ⟨rfl, rfl⟩
    obtain ⟨q1, q2⟩ := h0
    have q2' : (1 : Int) < (t.size : Int) := by omega
    have qb : (byteAt t 0 == 48) = true := by simp [q1]
    generalize byteAt t 0 = c at *
    clear q1
    go_enter Tryd.func87, Tryd.ntmps87
    go_wp2
    go_ret2
    exact ⟨by rw [HF.out.1, HF.out.2]; rfl, rfl⟩
  have HO : Hid (lenO t = lenR t t.size 0 0) := by
    show _ = _
    unfold lenO; rw [if_neg]
    rintro (q | q | q)
    · exact hz q
    · omega
    · exact h0 q
  have hq : ((byteAt t 0 == 48) = false) ∨ ((byteAt t 0 == 48) = true ∧ ¬ (1 : Int) < (t.size : Int)) := by
    by_cases q : byteAt t 0 = 48
    · right; exact ⟨by simp [q], by omega⟩
    · left; simp [q]
  have ht3 : (t.size : Int) ≤ 3 := by omega
  clear h0
  rcases hq with qb | ⟨qb, q2⟩
  all_goals
    go_enter Tryd.func87, Tryd.ntmps87
    go_wp2
    go_loopw [4, 25] (fun a b wr => ∃ (k : Nat) (n : Int), a = .int .i64 n ∧ b = .int .i64 k ∧ k ≤ t.size ∧ 0 ≤ n ∧ n ≤ 999 ∧ Hid ((k = 0 ∧ n = 0) ∨ (k = 1 ∧ n ≤ 9) ∨ (k = 2 ∧ n ≤ 99) ∨ (k = 3 ∧ n ≤ 999)) ∧ Hid (lenR t (t.size - k) k n = lenR t t.size 0 0) ∧ wr = w) (fun _ b _ => t.size - (intOf b).toNat)
    case atStart => exact ⟨0, 0, rfl, rfl, by omega, by omega, by omega, Or.inl ⟨rfl, rfl⟩, rfl, rfl⟩
    case round =>
      obtain ⟨k, n, rfl, rfl, hk, g0, g1, HB, HR, rfl⟩ := hrel
      clear qb hb0 he
      by_cases hlt : k < t.size
      · have hbt := byteAt_in t k hlt
        have bd := byteAt_bd t k
        have HU : Hid (t.size - k = (t.size - (k + 1)) + 1) := by show _ = _; omega
        have HS : Hid (∀ f, lenR t (f + 1) k n = if byteAt t k < 48 ∨ 57 < byteAt t k then none else lenR t f (k + 1) (10 * n + (byteAt t k - 48))) := fun f => rfl
        generalize byteAt t k = c at *
        have hk2 : (k : Int) < (t.size : Int) := by omega
        by_cases d0 : c < 48
        · have HF : Hid (lenV t = 0 ∧ lenB t = false) := by
            show _ ∧ _
            unfold lenV lenB; rw [HO.out, ← HR.out, HU.out, HS.out, if_pos (Or.inl d0)]; exact ⟨rfl, rfl⟩
          clear HS HU HR HO
          go_wp2
          go_ret2
          exact ⟨by rw [HF.out.1, HF.out.2]; rfl, rfl⟩
        by_cases d1 : 57 < c
        · have HF : Hid (lenV t = 0 ∧ lenB t = false) := by
            show _ ∧ _
            unfold lenV lenB; rw [HO.out, ← HR.out, HU.out, HS.out, if_pos (Or.inr d1)]; exact ⟨rfl, rfl⟩
          clear HS HU HR HO
          go_wp2
          go_ret2
          exact ⟨by rw [HF.out.1, HF.out.2]; rfl, rfl⟩
        · have HF : Hid (lenR t (t.size - (k + 1)) (k + 1) (10 * n + (c - 48)) = lenR t t.size 0 0) := by
            show _ = _
            rw [← HR.out, HU.out, HS.out, if_neg (by omega)]
          have hn : 10 * n + (c - 48) ≤ 999 ∧ 0 ≤ 10 * n + (c - 48) := by
            have := HB.out
            omega
          have HB2 : Hid ((k + 1 = 0 ∧ 10 * n + (c - 48) = 0) ∨ (k + 1 = 1 ∧ 10 * n + (c - 48) ≤ 9) ∨ (k + 1 = 2 ∧ 10 * n + (c - 48) ≤ 99) ∨ (k + 1 = 3 ∧ 10 * n + (c - 48) ≤ 999)) := by
            have := HB.out
            show _ ∨ _
            omega
          have u1 : IntKind.u8.wrap (c - 48) = c - 48 := by simp [IntKind.wrap, IntKind.bits, IntKind.signed]; omega
          obtain ⟨hn1, hn2⟩ := hn
          clear HS HU HR HO HB
          go_wp2
          go_roundw
          case rel => exact ⟨k + 1, 10 * n + (c - 48), rfl, by go_num, by omega, hn2, hn1, HB2, HF, trivial⟩
          case measure => simp [intOf]; omega
      · have HF : Hid (lenV t = n ∧ lenB t = true) := by
          show _ ∧ _
          have e : t.size - k = 0 := by omega
          unfold lenV lenB; rw [HO.out, ← HR.out, e]; exact ⟨rfl, rfl⟩
        have hk2 : ¬ (k : Int) < (t.size : Int) := by omega
        clear HR HO HB
        go_wp2
        go_ret2
        exact ⟨by rw [HF.out.1, HF.out.2]; rfl, rfl⟩

def ppE (F : Int) (s : ByteArray) : Int := if apE F (headS s) = 0 then (if lenB (tailS s) = true then checkE F (apV F (headS s)) (lenV (tailS s)) else 12) else apE F (headS s)
def ppV (F : Int) (s : ByteArray) : BitVec 128 := if ppE F s = 0 then apV F (headS s) else 0#128
def ppN (F : Int) (s : ByteArray) : Int := if ppE F s = 0 then lenV (tailS s) else 0
theorem ext_le (s : ByteArray) (a b : Nat) : (s.extract a b).size ≤ s.size := by rw [ByteArray.size_extract]; omega
theorem headS_le (s : ByteArray) : (headS s).size ≤ s.size := by
  unfold headS; split
  · exact Nat.le_refl _
  · exact ext_le _ _ _
theorem tailS_le (s : ByteArray) : (tailS s).size ≤ s.size := by
  unfold tailS; split
  · exact Nat.zero_le _
  · exact ext_le _ _ _
set_option maxHeartbeats 2000000 in
theorem pparse_any (F : Int) (s : ByteArray) (w : World) (hs : s.size ≤ maxLen) :
    Calls Tryd.prog 58 #[.int .i64 F, .string s] w fun e w' => e = .returned (.tuple #[.agg #[.int .u64 (hI (ppV F s)), .int .u64 (lI (ppV F s)), .int .i64 (ppN F s)], .int .i64 (ppE F s)]) ∧ Below w.heap.size w w' := by
  have KU := fun w => scut_any s w hs
  have KA := fun w => aparse_any F (headS s) w (Nat.le_trans (headS_le s) hs)
  have KL := fun w => plength_any (tailS s) w (Nat.le_trans (tailS_le s) hs)
  have KC := fun w => pcheck_any F (apV F (headS s)) (lenV (tailS s)) w
  unfold ppV ppN ppE
  generalize checkE F (apV F (headS s)) (lenV (tailS s)) = c at *
  generalize apE F (headS s) = e0 at *
  generalize apV F (headS s) = x at *
  generalize lenV (tailS s) = n at *
  generalize lenB (tailS s) = b at *
  generalize headS s = h at *
  generalize tailS s = t at *
  generalize decide (ixS s ≠ -1) = i at *
  by_cases h0 : e0 = 0
  · subst h0
    rw [if_pos rfl]
    cases b
    · rw [if_neg (show ¬ (false = true) by decide), if_neg (show ¬ ((12 : Int) = 0) by decide), if_neg (show ¬ ((12 : Int) = 0) by decide), hI_zero, lI_zero]
      go_enter Tryd.func58, Tryd.ntmps58
      go_wp2_with fail
      refine (KU _).mono ?_
      rintro e w1 ⟨rfl, hb1⟩
      have Z1 := (atp_new w w.heap.size 0#128 0 41 rfl).below hb1
      have kB1 := keepb hb1 (bl1 w _)
      clear hb1 KU
      go_wp2_with fail
      refine (KA _).mono ?_
      rintro e w2 ⟨rfl, hb2⟩
      have Z2 := (Z1.below hb2).below (bl1 _ (.cells #[.int .u64 (hI x), .int .u64 (lI x)] 24))
      have kB2 := (keepb hb2 kB1).alloc (keepb hb2 kB1).size (.cells #[.int .u64 (hI x), .int .u64 (lI x)] 24)
      clear hb2 KA Z1 kB1
      go_wp2_with fail
      refine (KL _).mono ?_
      rintro e w3 ⟨rfl, rfl⟩
      obtain ⟨z0, z1, z2, z3, z4, z5⟩ := Z2
      clear KL
      go_wp2
      exact bodyPost_ret (v := .tuple #[.agg #[.int .u64 0, .int .u64 0, .int .i64 0], .int .i64 12]) (by simp [results, Tryd.results58, go_sem, *]) rfl ⟨rfl, bset3 kB2 (Nat.le_refl _) _ _ _⟩
    · rw [if_pos rfl]
      by_cases hc : c = 0
      · subst hc
        rw [if_pos rfl, if_pos rfl]
        go_enter Tryd.func58, Tryd.ntmps58
        go_wp2_with fail
        refine (KU _).mono ?_
        rintro e w1 ⟨rfl, hb1⟩
        have Z1 := (atp_new w w.heap.size 0#128 0 41 rfl).below hb1
        have kB1 := keepb hb1 (bl1 w _)
        clear hb1 KU
        go_wp2_with fail
        refine (KA _).mono ?_
        rintro e w2 ⟨rfl, hb2⟩
        have Z2 := (Z1.below hb2).below (bl1 _ (.cells #[.int .u64 (hI x), .int .u64 (lI x)] 24))
        have kB2 := (keepb hb2 kB1).alloc (keepb hb2 kB1).size (.cells #[.int .u64 (hI x), .int .u64 (lI x)] 24)
        clear hb2 KA Z1 kB1
        go_wp2_with fail
        refine (KL _).mono ?_
        rintro e w3 ⟨rfl, rfl⟩
        clear KL
        have Z3 := Z2.below (bl1 _ (.cells #[.int .u64 (hI x), .int .u64 (lI x), .int .i64 n] 41))
        have C3 := atp_new (w2.alloc (.cells #[.int .u64 (hI x), .int .u64 (lI x)] 24)) (w2.heap.size + 1) x n 41 (by simp)
        have kB3 := kB2.alloc kB2.size (.cells #[.int .u64 (hI x), .int .u64 (lI x), .int .i64 n] 41)
        clear Z2 kB2
        go_wp2_with fail
        refine (KC _).mono ?_
        rintro e w4 ⟨rfl, hb4⟩
        obtain ⟨z0, z1, z2, z3, z4, z5⟩ := Z3.below hb4
        obtain ⟨c0, c1, c2, -, -, -⟩ := C3.below hb4
        have kB4 := keepb hb4 kB3
        clear KC Z3 C3 kB3 hb4
        go_wp2
        exact bodyPost_ret (v := .tuple #[.agg #[.int .u64 (hI x), .int .u64 (lI x), .int .i64 n], .int .i64 0]) (by simp [results, Tryd.results58, go_sem, *]) rfl ⟨rfl, bset3 kB4 (Nat.le_refl _) _ _ _⟩
      · have hcb : (c != 0) = true := by simp [hc]
        rw [if_neg hc, if_neg hc, hI_zero, lI_zero]
        go_enter Tryd.func58, Tryd.ntmps58
        go_wp2_with fail
        refine (KU _).mono ?_
        rintro e w1 ⟨rfl, hb1⟩
        have Z1 := (atp_new w w.heap.size 0#128 0 41 rfl).below hb1
        have kB1 := keepb hb1 (bl1 w _)
        clear hb1 KU
        go_wp2_with fail
        refine (KA _).mono ?_
        rintro e w2 ⟨rfl, hb2⟩
        have Z2 := (Z1.below hb2).below (bl1 _ (.cells #[.int .u64 (hI x), .int .u64 (lI x)] 24))
        have kB2 := (keepb hb2 kB1).alloc (keepb hb2 kB1).size (.cells #[.int .u64 (hI x), .int .u64 (lI x)] 24)
        clear hb2 KA Z1 kB1
        go_wp2_with fail
        refine (KL _).mono ?_
        rintro e w3 ⟨rfl, rfl⟩
        clear KL
        have Z3 := Z2.below (bl1 _ (.cells #[.int .u64 (hI x), .int .u64 (lI x), .int .i64 n] 41))
        have C3 := atp_new (w2.alloc (.cells #[.int .u64 (hI x), .int .u64 (lI x)] 24)) (w2.heap.size + 1) x n 41 (by simp)
        have kB3 := kB2.alloc kB2.size (.cells #[.int .u64 (hI x), .int .u64 (lI x), .int .i64 n] 41)
        clear Z2 kB2
        go_wp2_with fail
        refine (KC _).mono ?_
        rintro e w4 ⟨rfl, hb4⟩
        obtain ⟨z0, z1, z2, z3, z4, z5⟩ := Z3.below hb4
        have kB4 := keepb hb4 kB3
        clear KC Z3 C3 kB3 hb4
        go_wp2
        exact bodyPost_ret (v := .tuple #[.agg #[.int .u64 0, .int .u64 0, .int .i64 0], .int .i64 c]) (by simp [results, Tryd.results58, go_sem, *]) rfl ⟨rfl, bset3 kB4 (Nat.le_refl _) _ _ _⟩
  · have hb : (e0 != 0) = true := by simp [h0]
    rw [if_neg h0, if_neg h0, if_neg h0, hI_zero, lI_zero]
    go_enter Tryd.func58, Tryd.ntmps58
    go_wp2_with fail
    refine (KU _).mono ?_
    rintro e w1 ⟨rfl, hb1⟩
    have Z1 := (atp_new w w.heap.size 0#128 0 41 rfl).below hb1
    have kB1 := keepb hb1 (bl1 w _)
    clear hb1 KU
    go_wp2_with fail
    refine (KA _).mono ?_
    rintro e w2 ⟨rfl, hb2⟩
    obtain ⟨z0, z1, z2, z3, z4, z5⟩ := (Z1.below hb2).below (bl1 _ (.cells #[.int .u64 (hI x), .int .u64 (lI x)] 24))
    have kB2 := (keepb hb2 kB1).alloc (keepb hb2 kB1).size (.cells #[.int .u64 (hI x), .int .u64 (lI x)] 24)
    clear hb2 KA Z1 kB1
    go_wp2
    exact bodyPost_ret (v := .tuple #[.agg #[.int .u64 0, .int .u64 0, .int .i64 0], .int .i64 e0]) (by simp [results, Tryd.results58, go_sem, *]) rfl ⟨rfl, bset3 kB2 (Nat.le_refl _) _ _ _⟩
end Go.Proofs.YtpchhfhdepkbcaaDoor
