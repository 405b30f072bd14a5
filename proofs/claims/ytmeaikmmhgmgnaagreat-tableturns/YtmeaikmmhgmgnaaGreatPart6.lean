/-
  Part 6 of the proof: 4 texts, one behind the other.
-/
import Derived.Test.YtmeaikmmhgmgnaaGreatPart5
import Derived.Test.YtmeaikmmhgmgnaaGreatPart3
import Derived.Deep.AppendLies
import Derived.OwnWalk
import Derived.Laws.OwnMore
namespace Go.Proofs.YtmeaikmmhgmgnaaGreat
open Go.RowKit
set_option linter.unusedSimpArgs false
set_option linter.unusedVariables false

theorem answer_any (x : BitVec 128) (b : Bool) (w : World) :
    Calls Tryz.prog 107 #[.agg #[.int .u64 (hI x), .int .u64 (lI x)], .bool b] w fun e w' => e = .returned (.tuple #[.agg #[.int .u64 (hI (if b = true then x else 0#128)), .int .u64 (lI (if b = true then x else 0#128))], .int .i64 (if b = true then 0 else 12)]) ∧ Below w.heap.size w w' := by
  cases b
  · rw [if_neg (by simp), if_neg (by simp), hI_zero, lI_zero]
    go_enter Tryz.func107, Tryz.ntmps107
    go_wp2
    exact bodyPost_ret (v := .tuple #[.agg #[.int .u64 0, .int .u64 0], .int .i64 12]) (by simp [results, Tryz.results107, go_sem]) rfl ⟨rfl, bl2 _ _ _⟩
  · rw [if_pos rfl, if_pos rfl]
    go_enter Tryz.func107, Tryz.ntmps107
    go_wp2
    exact bodyPost_ret (v := .tuple #[.agg #[.int .u64 (hI x), .int .u64 (lI x)], .int .i64 0]) (by simp [results, Tryz.results107, go_sem]) rfl ⟨rfl, bl2 _ _ _⟩

def apV (F : Int) (s : ByteArray) : BitVec 128 := if F = 32 then (if fourB s = true then fourV s else 0#128) else if F = 128 then (if (six0 s).2 = true then (six0 s).1 else 0#128) else 0#128
def apE (F : Int) (s : ByteArray) : Int := if F = 32 then (if fourB s = true then 0 else 12) else if F = 128 then (if (six0 s).2 = true then 0 else 12) else 11

set_option maxHeartbeats 2000000 in
theorem aparse_any (F : Int) (s : ByteArray) (w : World) (hs : s.size ≤ maxLen) :
    Calls Tryz.prog 87 #[.int .i64 F, .string s] w fun e w' => e = .returned (.tuple #[.agg #[.int .u64 (hI (apV F s)), .int .u64 (lI (apV F s))], .int .i64 (apE F s)]) ∧ Below w.heap.size w w' := by
  unfold apV apE
  by_cases h32 : F = 32
  · rw [if_pos h32, if_pos h32]
    have KR := fun w => readFour_any s w hs
    have KA := fun w => answer_any (fourV s) (fourB s) w
    revert KA
    generalize (if fourB s = true then fourV s else 0#128) = x
    generalize (if fourB s = true then (0 : Int) else 12) = r
    intro KA
    generalize fourV s = y at *
    generalize fourB s = b at *
    subst h32
    go_enter Tryz.func87, Tryz.ntmps87
    go_wp2_with fail
    refine (KR _).mono ?_
    rintro e w1 ⟨rfl, hb1⟩
    go_wp2_with fail
    refine (KA _).mono ?_
    rintro e w2 ⟨rfl, hb2⟩
    have hZ := ((at_new w w.heap.size 0#128 35 rfl).below hb1).below hb2
    have kB := keepb hb2 (keepb hb1 (bl1 w _))
    obtain ⟨z0, z1, z2, z3, z4⟩ := hZ
    clear hb1 hb2 KR KA
    go_wp2
    exact bodyPost_ret (v := .tuple #[.agg #[.int .u64 (hI x), .int .u64 (lI x)], .int .i64 r]) (by simp [results, Tryz.results87, go_sem, *]) rfl ⟨rfl, bset2 kB (Nat.le_refl _) _ _⟩
  rw [if_neg h32, if_neg h32]
  by_cases h128 : F = 128
  · rw [if_pos h128, if_pos h128]
    have KR := fun w => readSix_any s w hs
    have KA := fun w => answer_any (six0 s).1 (six0 s).2 w
    revert KA
    generalize (if (six0 s).2 = true then (six0 s).1 else 0#128) = x
    generalize (if (six0 s).2 = true then (0 : Int) else 12) = r
    intro KA
    generalize (six0 s).1 = y at *
    generalize (six0 s).2 = b at *
    clear h32
    subst h128
    go_enter Tryz.func87, Tryz.ntmps87
    go_wp2_with fail
    refine (KR _).mono ?_
    rintro e w1 ⟨rfl, hb1⟩
    go_wp2_with fail
    refine (KA _).mono ?_
    rintro e w2 ⟨rfl, hb2⟩
    have hZ := ((at_new w w.heap.size 0#128 35 rfl).below hb1).below hb2
    have kB := keepb hb2 (keepb hb1 (bl1 w _))
    obtain ⟨z0, z1, z2, z3, z4⟩ := hZ
    clear hb1 hb2 KR KA
    go_wp2
    exact bodyPost_ret (v := .tuple #[.agg #[.int .u64 (hI x), .int .u64 (lI x)], .int .i64 r]) (by simp [results, Tryz.results87, go_sem, *]) rfl ⟨rfl, bset2 kB (Nat.le_refl _) _ _⟩
  · rw [if_neg h128, if_neg h128, hI_zero, lI_zero]
    have b1 : (F == 32) = false := by simp [h32]
    have b2 : (F == 128) = false := by simp [h128]
    go_enter Tryz.func87, Tryz.ntmps87
    go_wp2
    exact bodyPost_ret (v := .tuple #[.agg #[.int .u64 0, .int .u64 0], .int .i64 11]) (by simp [results, Tryz.results87, go_sem, *]) rfl ⟨rfl, bl1 _ _⟩

end Go.Proofs.YtmeaikmmhgmgnaaGreat
namespace Go.Proofs.YtmeaikmmhgmgnaaGreat
open Go.RowKit
set_option linter.unusedSimpArgs false
set_option linter.unusedVariables false

def octG (t : ByteArray) : Nat → Nat → Int → Int
  | 0, _, n => n
  | f + 1, k, n => if 48 ≤ byteAt t k ∧ byteAt t k ≤ 57 then octG t f (k + 1) (10 * n + (byteAt t k - 48)) else -1
def octV (t : ByteArray) : Int := if t.size < 1 ∨ 3 < t.size ∨ (1 < t.size ∧ byteAt t 0 = 48) then -1 else if 255 < octG t t.size 0 0 then -1 else octG t t.size 0 0

set_option maxHeartbeats 2000000 in
theorem octet_any (t : ByteArray) (w : World) (hs : t.size ≤ maxLen) :
    Calls Tryz.prog 113 #[.string t] w fun e w' => e = .returned (.int .i64 (octV t)) ∧ w' = w := by
  unfold maxLen at hs
  by_cases h1 : t.size < 1
  · have h1' : (t.size : Int) < 1 := by omega
    rw [show octV t = -1 from if_pos (Or.inl h1)]
    go_enter Tryz.func113, Tryz.ntmps113
    go_wp2
    go_ret
    exact ⟨rfl, rfl⟩
  have h1' : ¬ (t.size : Int) < 1 := by omega
  by_cases h3 : 3 < t.size
  · have h3' : (3 : Int) < (t.size : Int) := by omega
    rw [show octV t = -1 from if_pos (Or.inr (Or.inl h3))]
    go_enter Tryz.func113, Tryz.ntmps113
    go_wp2
    go_ret
    exact ⟨rfl, rfl⟩
  have h3' : ¬ (3 : Int) < (t.size : Int) := by omega
  have hb0 := byteAt_in t 0 (by omega)
  by_cases hz : 1 < t.size ∧ byteAt t 0 = 48
  · obtain ⟨z1, z2⟩ := id hz
    have z1' : (1 : Int) < (t.size : Int) := by omega
    rw [z2] at hb0
    rw [show octV t = -1 from if_pos (Or.inr (Or.inr hz))]
    clear hz z2
    go_enter Tryz.func113, Tryz.ntmps113
    go_wp2
    go_ret
    exact ⟨rfl, rfl⟩
  have HV : Hid (octV t = if 255 < octG t t.size 0 0 then -1 else octG t t.size 0 0) := by
    show _ = _
    unfold octV; rw [if_neg (by omega)]
  have body : ∀ (d : Bool), ((1 < t.size) → decide (byteAt t 0 = 48) = false) → Calls Tryz.prog 113 #[.string t] w fun e w' => e = .returned (.int .i64 (octV t)) ∧ w' = w := by
    intro _ hd
    by_cases hl : 1 < t.size
    all_goals
      first
        | (have hl2 : (1 : Int) < (t.size : Int) := by omega
           have hne : (byteAt t 0 == 48) = false := by have := hd hl; simpa using this)
        | (have hl2 : ¬ (1 : Int) < (t.size : Int) := by omega)
      clear hd hz
      generalize byteAt t 0 = b0 at *
      go_enter Tryz.func113, Tryz.ntmps113
      go_wp2
      go_loopw [3, 4] (fun a b wr => ∃ (k : Nat) (n : Int), a = .int .i64 n ∧ b = .int .i64 k ∧ k ≤ t.size ∧ 0 ≤ n ∧ Hid (n < 10 ^ k) ∧ Hid (octG t (t.size - k) k n = octG t t.size 0 0) ∧ wr = w) (fun _ b _ => t.size - (intOf b).toNat)
      case atStart => exact ⟨0, 0, rfl, rfl, by omega, by omega, by show (0 : Int) < 1; omega, rfl, rfl⟩
      case round =>
        obtain ⟨k, n, rfl, rfl, hk, n0, HN, HR, rfl⟩ := hrel
        have HP : Hid ((10 : Int) ^ k ≤ 1000) := by
          show _ ≤ _
          rcases (by omega : k = 0 ∨ k = 1 ∨ k = 2 ∨ k = 3) with rfl | rfl | rfl | rfl <;> decide
        have n1 : n < 1000 := by have := HN.out; have := HP.out; omega
        by_cases hlt : k < t.size
        · have hbt := byteAt_in t k hlt
          have bd := byteAt_bd t k
          have hk2 : (k : Int) < (t.size : Int) := by omega
          have HU : Hid (t.size - k = (t.size - (k + 1)) + 1) := by show _ = _; omega
          have HS : Hid (∀ f, octG t (f + 1) k n = if 48 ≤ byteAt t k ∧ byteAt t k ≤ 57 then octG t f (k + 1) (10 * n + (byteAt t k - 48)) else -1) := fun _ => rfl
          generalize byteAt t k = c at *
          by_cases hd : 48 ≤ c ∧ c ≤ 57
          · have HF : Hid (octG t (t.size - (k + 1)) (k + 1) (10 * n + (c - 48)) = octG t t.size 0 0) := by
              show _ = _
              rw [← HR.out, HU.out, HS.out, if_pos hd]
            have HN2 : Hid (10 * n + (c - 48) < 10 ^ (k + 1)) := by
              show _ < _
              have := HN.out
              rw [Int.pow_succ]; omega
            obtain ⟨d0, d1⟩ := hd
            have d0' : ¬ c < 48 := by omega
            have d1' : ¬ 57 < c := by omega
            clear HS HU HR HN HP HV
            go_wp2
            go_roundw
            case rel => exact ⟨k + 1, 10 * n + (c - 48), by go_num, by go_num, by omega, by omega, HN2, HF, trivial⟩
            case measure => simp [intOf]; omega
          · have HF : Hid (octV t = -1) := by
              show _ = _
              rw [HV.out, ← HR.out, HU.out, HS.out, if_neg hd]; rfl
            clear HS HU HR HN HP HV
            by_cases d0 : c < 48
            · go_wp2
              go_ret
              exact ⟨by rw [HF.out]; rfl, rfl⟩
            · have d1 : 57 < c := by omega
              go_wp2
              go_ret
              exact ⟨by rw [HF.out]; rfl, rfl⟩
        · have hk2 : ¬ (k : Int) < (t.size : Int) := by omega
          have HE : Hid (octG t t.size 0 0 = n) := by
            show _ = _
            have e : t.size - k = 0 := by omega
            rw [← HR.out, e]; rfl
          by_cases h255 : 255 < n
          · have HF : Hid (octV t = -1) := by show _ = _; rw [HV.out, HE.out, if_pos h255]
            clear HR HN HP HV HE
            go_wp2
            go_ret
            exact ⟨by rw [HF.out]; rfl, rfl⟩
          · have HF : Hid (octV t = n) := by show _ = _; rw [HV.out, HE.out, if_neg h255]
            clear HR HN HP HV HE
            go_wp2
            go_ret
            exact ⟨by rw [HF.out]; rfl, rfl⟩
  exact body true (fun hl => by simp; intro q; exact hz ⟨hl, q⟩)

def grG (t : ByteArray) : Nat → Nat → Int → Int
  | 0, _, n => n
  | f + 1, k, n => if hexB (byteAt t k) = true then grG t f (k + 1) (16 * n + hexV (byteAt t k)) else -1
def grV (t : ByteArray) : Int := if t.size < 1 ∨ 4 < t.size then -1 else grG t t.size 0 0

set_option maxHeartbeats 4000000 in
theorem rgroup_any (t : ByteArray) (w : World) (hs : t.size ≤ maxLen) :
    Calls Tryz.prog 114 #[.string t] w fun e w' => e = .returned (.int .i64 (grV t)) ∧ w' = w := by
  unfold maxLen at hs
  by_cases h1 : t.size < 1
  · have h1' : (t.size : Int) < 1 := by omega
    rw [show grV t = -1 from if_pos (Or.inl h1)]
    go_enter Tryz.func114, Tryz.ntmps114
    go_wp2
    go_ret
    exact ⟨rfl, rfl⟩
  have h1' : ¬ (t.size : Int) < 1 := by omega
  by_cases h3 : 4 < t.size
  · have h3' : (4 : Int) < (t.size : Int) := by omega
    rw [show grV t = -1 from if_pos (Or.inr h3)]
    go_enter Tryz.func114, Tryz.ntmps114
    go_wp2
    go_ret
    exact ⟨rfl, rfl⟩
  have h3' : ¬ (4 : Int) < (t.size : Int) := by omega
  have HV : Hid (grV t = grG t t.size 0 0) := by
    show _ = _
    unfold grV; rw [if_neg (by omega)]
  go_enter Tryz.func114, Tryz.ntmps114
  go_wp2
  go_loopw [3, 4] (fun a b wr => ∃ (k : Nat) (n : Int), a = .int .i64 n ∧ b = .int .i64 k ∧ k ≤ t.size ∧ 0 ≤ n ∧ Hid (n < 16 ^ k) ∧ Hid (grG t (t.size - k) k n = grG t t.size 0 0) ∧ wr = w) (fun _ b _ => t.size - (intOf b).toNat)
  case atStart => exact ⟨0, 0, rfl, rfl, by omega, by omega, by show (0 : Int) < 1; omega, rfl, rfl⟩
  case round =>
    obtain ⟨k, n, rfl, rfl, hk, n0, HN, HR, rfl⟩ := hrel
    have HP : Hid ((16 : Int) ^ k ≤ 65536) := by
      show _ ≤ _
      rcases (by omega : k = 0 ∨ k = 1 ∨ k = 2 ∨ k = 3 ∨ k = 4) with rfl | rfl | rfl | rfl | rfl <;> decide
    have n1 : n < 65536 := by have := HN.out; have := HP.out; omega
    by_cases hlt : k < t.size
    · have hbt := byteAt_in t k hlt
      have bd := byteAt_bd t k
      have hk2 : (k : Int) < (t.size : Int) := by omega
      have HU : Hid (t.size - k = (t.size - (k + 1)) + 1) := by show _ = _; omega
      have HS : Hid (∀ f, grG t (f + 1) k n = if hexB (byteAt t k) = true then grG t f (k + 1) (16 * n + hexV (byteAt t k)) else -1) := fun _ => rfl
      generalize byteAt t k = c at *
      have HD : Hid (hexB c = true → grG t (t.size - (k + 1)) (k + 1) (16 * n + hexV c) = grG t t.size 0 0) := fun hd => by
        rw [← HR.out, HU.out, HS.out, if_pos hd]
      have HE : Hid (hexB c = false → grV t = -1) := fun hd => by
        rw [HV.out, ← HR.out, HU.out, HS.out, if_neg (by simp [hd])]
      have HN2 : Hid (16 * n + hexV c < 16 ^ (k + 1)) := by
        show _ < _
        have := HN.out
        have := hexV_bd c
        rw [Int.pow_succ]; omega
      have hvb := hexV_bd c
      clear HS HU HR HN HP HV
      rcases hex_ways c with ⟨a, p, q⟩ | ⟨a, b, p, q⟩ | ⟨a, b, p, q⟩ | ⟨a, b, p, q⟩ | ⟨a, b, p, q⟩ | ⟨a, b, p, q⟩ | ⟨a, p, q⟩
      · have HF : Hid (grV t = -1) := HE.out p
        clear HD HE HN2 p q hvb
        go_wp2
        go_ret
        exact ⟨by rw [HF.out]; rfl, rfl⟩
      · have HF : Hid _ := HD.out p
        rw [q] at HF HN2
        have b' : ¬ 57 < c := by omega
        clear HD HE p q hvb
        go_wp2
        go_roundw
        case rel => exact ⟨k + 1, 16 * n + (c - 48), by go_num, by go_num, by omega, by omega, HN2, HF, trivial⟩
        case measure => simp [intOf]; omega
      · have HF : Hid (grV t = -1) := HE.out p
        clear HD HE HN2 p q hvb
        go_wp2
        go_ret
        exact ⟨by rw [HF.out]; rfl, rfl⟩
      · have HF : Hid _ := HD.out p
        rw [q] at HF HN2
        clear HD HE p q hvb
        have e1 : 16 * n + (c + 32 - 97 + 10) = 16 * n + (c - 65) + 10 := by omega
        rw [e1] at HF HN2
        clear e1
        go_wp2
        go_roundw
        case rel => exact ⟨k + 1, 16 * n + (c - 65) + 10, by go_num, by go_num, by omega, by omega, HN2, HF, trivial⟩
        case measure => simp [intOf]; omega
      · have HF : Hid (grV t = -1) := HE.out p
        clear HD HE HN2 p q hvb
        go_wp2
        go_ret
        exact ⟨by rw [HF.out]; rfl, rfl⟩
      · have HF : Hid _ := HD.out p
        rw [q] at HF HN2
        clear HD HE p q hvb
        have e1 : 16 * n + (c - 97 + 10) = 16 * n + (c - 97) + 10 := by omega
        rw [e1] at HF HN2
        clear e1
        go_wp2
        go_roundw
        case rel => exact ⟨k + 1, 16 * n + (c - 97) + 10, by go_num, by go_num, by omega, by omega, HN2, HF, trivial⟩
        case measure => simp [intOf]; omega
      · have HF : Hid (grV t = -1) := HE.out p
        clear HD HE HN2 p q hvb
        go_wp2
        go_ret
        exact ⟨by rw [HF.out]; rfl, rfl⟩
    · have hk2 : ¬ (k : Int) < (t.size : Int) := by omega
      have HF : Hid (grV t = n) := by
        show _ = _
        have e : t.size - k = 0 := by omega
        rw [HV.out, ← HR.out, e]; rfl
      clear HR HN HP HV
      go_wp2
      go_ret
      exact ⟨by rw [HF.out]; rfl, rfl⟩

def gapG (t : ByteArray) : Nat → Nat → Int
  | 0, _ => -1
  | f + 1, i => if i + 1 < t.size then (if byteAt t i = 58 ∧ byteAt t (i + 1) = 58 then (i : Int) else gapG t f (i + 1)) else -1
def gapV (t : ByteArray) : Int := gapG t (t.size + 1) 0

set_option maxHeartbeats 2000000 in
theorem gap_any (t : ByteArray) (w : World) (hs : t.size ≤ 1000) :
    Calls Tryz.prog 95 #[.string t] w fun e w' => e = .returned (.int .i64 (gapV t)) ∧ w' = w := by
  go_enter Tryz.func95, Tryz.ntmps95
  go_wp2
  go_loopw [3] (fun b wr => ∃ (f k : Nat), b = .int .i64 k ∧ k ≤ t.size ∧ t.size < k + f ∧ Hid (gapG t f k = gapV t) ∧ wr = w) (fun b _ => t.size - (intOf b).toNat)
  case atStart => exact ⟨t.size + 1, 0, rfl, by omega, by omega, rfl, rfl⟩
  case round =>
    obtain ⟨f, k, rfl, hk, hf, HR, rfl⟩ := hrel
    obtain ⟨f, rfl⟩ : ∃ g, f = g + 1 := ⟨f - 1, by omega⟩
    have hu : IntKind.i64.wrap ((k : Int) + 1) = (k : Int) + 1 := by rw [IntKind.wrap_i64]; omega
    by_cases hlt : k + 1 < t.size
    · have hbt := byteAt_in t k (by omega)
      have hbt1 := byteAt_in t (k + 1) hlt
      have hk1 : (k : Int) < (t.size : Int) := by omega
      have hk2 : (k : Int) + 1 < (t.size : Int) := by omega
      have HS : Hid (gapG t (f + 1) k = if byteAt t k = 58 ∧ byteAt t (k + 1) = 58 then (k : Int) else gapG t f (k + 1)) := if_pos hlt
      generalize byteAt t k = c at *
      generalize byteAt t (k + 1) = d at *
      by_cases hc : c = 58
      · by_cases hd : d = 58
        · have HF : Hid (gapV t = k) := by show _ = _; rw [← HR.out, HS.out, if_pos ⟨hc, hd⟩]
          subst hc hd
          clear HS HR
          go_wp2
          go_ret
          exact ⟨by rw [HF.out]; rfl, rfl⟩
        · have HF : Hid (gapG t f (k + 1) = gapV t) := by show _ = _; rw [← HR.out, HS.out, if_neg (by simp [hd])]
          have hdb : (d == 58) = false := by simp [hd]
          subst hc
          clear HS HR
          go_wp2
          go_roundw
          case rel => exact ⟨f, k + 1, by go_num, by omega, by omega, HF, trivial⟩
          case measure => simp [intOf]; omega
      · have HF : Hid (gapG t f (k + 1) = gapV t) := by show _ = _; rw [← HR.out, HS.out, if_neg (by simp [hc])]
        have hcb : (c == 58) = false := by simp [hc]
        clear HS HR
        go_wp2
        go_roundw
        case rel => exact ⟨f, k + 1, by go_num, by omega, by omega, HF, trivial⟩
        case measure => simp [intOf]; omega
    · have hk2 : ¬ (k : Int) + 1 < (t.size : Int) := by omega
      have HF : Hid (gapV t = -1) := by show _ = _; rw [← HR.out]; exact if_neg hlt
      clear HR
      go_wp2
      go_ret
      exact ⟨by rw [HF.out]; rfl, rfl⟩
end Go.Proofs.YtmeaikmmhgmgnaaGreat
namespace Go.Proofs.YtmeaikmmhgmgnaaGreat
open Go.RowKit
set_option linter.unusedSimpArgs false
set_option linter.unusedVariables false

theorem rowBelow {base e size n : Nat} {v : Value} {xs : List Value} {W w' : World} (hb : Below W.heap.size W w') (h : W.ownsRow base e size v n xs) : w'.ownsRow base e size v n xs := by
  refine h.kept (row := none) ⟨hb.os, hb.tape, hb.output, hb.size, fun k hk _ => hb.block k hk⟩ ?_
  cases v.ownBlock with
  | none => exact Or.inl rfl
  | some a => exact Or.inr (by simp)
theorem newsS (W : World) (v : Value) (t : TypeId) : ∀ j u, [v][j]? = some u → (W.alloc (.cells #[v] t)).cell? ((⟨W.heap.size, 0, none⟩ : Addr).add j) = some u := by
  intro j u hj
  match j, hj with
  | 0, hj => simp at hj; subst hj; simp [Addr.add, go_sem]
theorem oneS (s : ByteArray) : ∀ u ∈ [Value.string s], u.oneCell' = true := by
  intro u hu; simp at hu; subst hu; rfl
theorem Tryz.infoS : (Tryz.prog.info? 9).map (fun i => (i.zero, i.size, i.bytes)) = some (some (.string ByteArray.empty), 1, 16) := by kernel_rfl

def spl (t : ByteArray) (c : Int) : Nat → Nat → Nat → List ByteArray
  | 0, p, _ => [t.extract p t.size]
  | f + 1, p, i => if byteAt t i = c then t.extract p i :: spl t c f (i + 1) (i + 1) else spl t c f p (i + 1)
def strs (l : List ByteArray) : List Value := l.map Value.string

set_option maxHeartbeats 4000000 in
theorem split_any (t : ByteArray) (c : Int) (w : World) (hs : t.size ≤ 1000) (c0 : 0 ≤ c) (c1 : c ≤ 255) :
    Calls Tryz.prog 112 #[.string t, .int .u8 c] w fun e w' => (∃ g cap, e = .returned (.slice (some ⟨g, 0, none⟩) (spl t c t.size 0 0).length cap) ∧ w'.ownsRow w.heap.size 9 1 (.slice (some ⟨g, 0, none⟩) (spl t c t.size 0 0).length cap) (spl t c t.size 0 0).length (strs (spl t c t.size 0 0))) ∧ Below w.heap.size w w' := by
  obtain ⟨i0, hi, hz0, hz1, hz2⟩ := info_parts Tryz.infoS
  go_enter Tryz.func112, Tryz.ntmps112
  go_wp2
  go_loopw [5, 6, 7] (fun a b d wr => ∃ (k p : Nat) (xs : List ByteArray), b = .int .i64 p ∧ d = .int .i64 k ∧ p ≤ k ∧ k ≤ t.size ∧ xs.length ≤ k ∧ Hid (xs ++ spl t c (t.size - k) p k = spl t c t.size 0 0) ∧ wr.ownsRow w.heap.size 9 1 a xs.length (strs xs) ∧ Below w.heap.size w wr) (fun _ _ d _ => t.size - (intOf d).toNat)
  case atStart => exact ⟨0, 0, [], rfl, rfl, by omega, by omega, by simp, rfl, World.ownsRow_nil _ _ _ _, Below.refl _ _⟩
  case round =>
    obtain ⟨k, p, xs, rfl, rfl, hp, hk, hx, HR, hown, hB⟩ := hrel
    have hBs := hB.size
    have h63 : xs.length + 1 ≤ maxLen := by unfold maxLen; omega
    have h47 : (xs.length + 1) * 16 ≤ 140737488355328 := by omega
    by_cases hlt : k < t.size
    · have hbt := byteAt_in t k hlt
      have hk2 : (k : Int) < (t.size : Int) := by omega
      have hpk : (p : Int) ≤ (k : Int) := by omega
      have hkt : (k : Int) ≤ (t.size : Int) := by omega
      have HU : Hid (t.size - k = (t.size - (k + 1)) + 1) := by show _ = _; omega
      have HS : Hid (∀ f, spl t c (f + 1) p k = if byteAt t k = c then t.extract p k :: spl t c f (k + 1) (k + 1) else spl t c f p (k + 1)) := fun _ => rfl
      generalize byteAt t k = b at *
      by_cases hd : b = c
      · have HF : Hid ((xs ++ [t.extract p k]) ++ spl t c (t.size - (k + 1)) (k + 1) (k + 1) = spl t c t.size 0 0) := by
          show _ = _
          rw [← HR.out, HU.out, HS.out, if_pos hd, List.append_assoc]; rfl
        subst hd
        clear HS HU HR
        go_wp2_with (first | (at_builtin; refine wpList_append_lies _ rfl _ _ 135 rfl w.heap.size 9 i0 (.string ByteArray.empty) 1 16 Tryz.underlying135 hi hz0 hz1 hz2 rfl (by decide) _ _ _ rfl (hown.alloc _) ⟨wr.heap.size, 0, none⟩ 1 1 [.string (t.extract p k)] rfl rfl (newsS _ _ _) (oneS _) (by decide) h63 h47 (by simp; omega) _ rfl ?_; intro g cap w4 hown4 hgrow hat hlt4))
        have kB4 : Below w.heap.size w w4 := (hB.alloc hBs _).grown hgrow (by simp; omega) (fun q hq => (hown.lt q hq).1)
        clear hgrow hat
        go_roundw
        case rel => exact ⟨k + 1, k + 1, xs ++ [t.extract p k], by go_num, by go_num, by omega, by omega, by simp; omega, HF, by simpa [strs] using hown4, kB4⟩
        case measure => simp [intOf]; omega
      · have HF : Hid (xs ++ spl t c (t.size - (k + 1)) p (k + 1) = spl t c t.size 0 0) := by
          show _ = _
          rw [← HR.out, HU.out, HS.out, if_neg hd]
        have hdb : (b == c) = false := by simp [hd]
        clear HS HU HR
        go_wp2
        go_roundw
        case rel => exact ⟨k + 1, p, xs, rfl, by go_num, by omega, by omega, by omega, HF, hown, hB⟩
        case measure => simp [intOf]; omega
    · have hk2 : ¬ (k : Int) < (t.size : Int) := by omega
      have hpt : (p : Int) ≤ (t.size : Int) := by omega
      have HF : Hid (xs ++ [t.extract p t.size] = spl t c t.size 0 0) := by
        show _ = _
        have e : t.size - k = 0 := by omega
        rw [← HR.out, e]; rfl
      clear HR
      go_wp2_with (first | (at_builtin; refine wpList_append_lies _ rfl _ _ 135 rfl w.heap.size 9 i0 (.string ByteArray.empty) 1 16 Tryz.underlying135 hi hz0 hz1 hz2 rfl (by decide) _ _ _ rfl (hown.alloc _) ⟨wr.heap.size, 0, none⟩ 1 1 [.string (t.extract p t.size)] rfl rfl (newsS _ _ _) (oneS _) (by decide) h63 h47 (by simp; omega) _ rfl ?_; intro g cap w4 hown4 hgrow hat hlt4))
      have kB4 : Below w.heap.size w w4 := (hB.alloc hBs _).grown hgrow (by simp; omega) (fun q hq => (hown.lt q hq).1)
      clear hgrow hat
      go_ret
      refine ⟨⟨g, cap, ?_, ?_⟩, kB4⟩
      · rw [← HF.out]; simp
      · rw [← HF.out]; simpa [strs] using hown4
end Go.Proofs.YtmeaikmmhgmgnaaGreat
namespace Go.Proofs.YtmeaikmmhgmgnaaGreat
open Go.RowKit
set_option linter.unusedSimpArgs false
set_option linter.unusedVariables false

theorem octG_bd (t : ByteArray) : ∀ f k n, 0 ≤ n → -1 ≤ octG t f k n := by
  intro f
  induction f with
  | zero => intro k n h; show -1 ≤ n; omega
  | succ f ih =>
    intro k n h
    show -1 ≤ if _ then _ else _
    split
    · exact ih _ _ (by omega)
    · omega
theorem octV_bd (t : ByteArray) : -1 ≤ octV t ∧ octV t ≤ 255 := by
  unfold octV
  split
  · omega
  · have := octG_bd t t.size 0 0 (by omega)
    split <;> omega
theorem spl_size (t : ByteArray) (c : Int) : ∀ f p i, ∀ q ∈ spl t c f p i, q.size ≤ t.size := by
  intro f
  induction f with
  | zero =>
    intro p i q hq
    have : q = t.extract p t.size := by simpa [spl] using hq
    subst this; simp
  | succ f ih =>
    intro p i q hq
    unfold spl at hq
    split at hq
    · rcases List.mem_cons.mp hq with rfl | h
      · simp; omega
      · exact ih _ _ q h
    · exact ih _ _ q hq
def dotG : List ByteArray → Int → Option Int
  | [], v => some v
  | p :: l, v => if octV p < 0 then none else dotG l (256 * v + octV p)
def dotO (t : ByteArray) : Option Int := if (spl t 46 t.size 0 0).length = 4 then dotG (spl t 46 t.size 0 0) 0 else none

theorem row_get {w : World} {base e g n cap : Nat} {l : List ByteArray} (h : w.ownsRow base e 1 (.slice (some ⟨g, 0, none⟩) n cap) n (strs l)) (hn : n = l.length) (k : Nat) (hk : k < n) : w.cell? ⟨g, k, none⟩ = some (.string (l[k]'(by omega))) := by
  rw [h.cellAt k (by omega)]
  unfold strs
  rw [List.getElem?_map, List.getElem?_eq_getElem (by omega)]
  rfl

set_option maxHeartbeats 4000000 in
theorem dotted_any (t : ByteArray) (w : World) (hs : t.size ≤ 1000) :
    Calls Tryz.prog 94 #[.string t] w fun e w' => e = .returned (.tuple #[.int .u64 ((dotO t).getD 0), .bool (dotO t).isSome]) ∧ Below w.heap.size w w' := by
  have KS := fun w => split_any t 46 w hs (by omega) (by omega)
  have hsz := spl_size t 46 t.size 0 0
  unfold dotO
  generalize spl t 46 t.size 0 0 = l at *
  by_cases h4 : l.length = 4
  · rw [if_pos h4]
    have HL : Hid (l.length = 4) := h4
    simp only [h4] at KS
    clear h4
    go_enter Tryz.func94, Tryz.ntmps94
    go_wp2_with fail
    refine (KS _).mono ?_
    rintro e w1 ⟨⟨g, cap, rfl, hown⟩, hB⟩
    clear KS
    have hrow := fun k hk => row_get hown HL.out.symm k hk
    clear hown
    go_wp2
    go_loopw [5, 6] (fun a b wr => ∃ (k : Nat) (v : Int), a = .int .u64 v ∧ b = .int .i64 k ∧ k ≤ 4 ∧ 0 ≤ v ∧ Hid (v < 256 ^ k) ∧ Hid (dotG (l.drop k) v = dotG l 0) ∧ wr = w1) (fun _ b _ => 4 - (intOf b).toNat)
    case atStart => exact ⟨0, 0, rfl, rfl, by omega, by omega, by show (0 : Int) < 1; omega, rfl, rfl⟩
    case round =>
      obtain ⟨k, v, rfl, rfl, hk, v0, HV, HR, rfl⟩ := hrel
      have HP : Hid ((256 : Int) ^ k ≤ 4294967296) := by
        show _ ≤ _
        rcases (by omega : k = 0 ∨ k = 1 ∨ k = 2 ∨ k = 3 ∨ k = 4) with rfl | rfl | rfl | rfl | rfl <;> decide
      have v1 : v < 4294967296 := by have := HV.out; have := HP.out; omega
      by_cases hlt : k < 4
      · have hk2 : (k : Int) < 4 := by omega
        have hcell := hrow k hlt
        have hkl : k < l.length := by rw [HL.out]; exact hlt
        have HD : Hid (l.drop k = l[k] :: l.drop (k + 1)) := List.drop_eq_getElem_cons hkl
        have KO := fun w => octet_any l[k] w (by have := hsz l[k] (List.getElem_mem hkl); unfold maxLen; omega)
        have ob := octV_bd l[k]
        have HS : Hid (dotG (l.drop k) v = if octV l[k] < 0 then none else dotG (l.drop (k + 1)) (256 * v + octV l[k])) := by
          show _ = _
          rw [HD.out]; rfl
        clear hrow HD
        generalize octV l[k] = n at *
        generalize l[k] = q at *
        go_wp2_with fail
        refine (KO _).mono ?_
        rintro e w2 ⟨rfl, rfl⟩
        clear KO
        by_cases hn : n < 0
        · have HF : Hid (dotG l 0 = none) := by show _ = _; rw [← HR.out, HS.out, if_pos hn]
          clear HS HR HV HP
          go_wp2
          go_ret2
          exact ⟨by rw [HF.out]; rfl, hB⟩
        · have HF : Hid (dotG (l.drop (k + 1)) (256 * v + n) = dotG l 0) := by show _ = _; rw [← HR.out, HS.out, if_neg hn]
          have HV2 : Hid (256 * v + n < 256 ^ (k + 1)) := by
            show _ < _
            have := HV.out
            rw [Int.pow_succ]; omega
          clear HS HR HV HP
          go_wp2
          go_roundw
          case rel => exact ⟨k + 1, 256 * v + n, by go_num, by go_num, by omega, by omega, HV2, HF, trivial⟩
          case measure => simp [intOf]; omega
      · have hk4 : k = 4 := by omega
        subst hk4
        have HF : Hid (dotG l 0 = some v) := by
          show _ = _
          rw [← HR.out, List.drop_of_length_le (by rw [HL.out]; omega)]; rfl
        clear HR HV HP hrow
        go_wp2
        go_ret2
        exact ⟨by rw [HF.out]; rfl, hB⟩
  · rw [if_neg h4]
    have h4' : ((l.length : Int) != 4) = true := by simp; omega
    go_enter Tryz.func94, Tryz.ntmps94
    go_wp2_with fail
    refine (KS _).mono ?_
    rintro e w1 ⟨⟨g, cap, rfl, hown⟩, hB⟩
    clear KS hown
    go_wp2
    go_ret2
    exact ⟨rfl, hB⟩
end Go.Proofs.YtmeaikmmhgmgnaaGreat
