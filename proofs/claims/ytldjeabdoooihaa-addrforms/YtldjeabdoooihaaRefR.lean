/-
  What the calls of turnpikeref2's octet, group and gap do.
-/
import Derived.Test.YtldjeabdoooihaaAdr6
namespace Go.Proofs.Ytldjeabdoooihaa
open Go.RowKit
set_option linter.unusedSimpArgs false
set_option linter.unusedVariables false

def octG (t : ByteArray) : Nat → Nat → Int → Int
  | 0, _, n => n
  | f + 1, k, n => if 48 ≤ byteAt t k ∧ byteAt t k ≤ 57 then octG t f (k + 1) (10 * n + (byteAt t k - 48)) else -1
def octV (t : ByteArray) : Int := if t.size < 1 ∨ 3 < t.size ∨ (1 < t.size ∧ byteAt t 0 = 48) then -1 else if 255 < octG t t.size 0 0 then -1 else octG t t.size 0 0

set_option maxHeartbeats 2000000 in
theorem octet_any (t : ByteArray) (w : World) (hs : t.size ≤ maxLen) :
    Calls Try.prog 51 #[.string t] w fun e w' => e = .returned (.int .i64 (octV t)) ∧ w' = w := by
  unfold maxLen at hs
  by_cases h1 : t.size < 1
  · have h1' : (t.size : Int) < 1 := by omega
    rw [show octV t = -1 from if_pos (Or.inl h1)]
    go_enter Try.func51, Try.ntmps51
    go_wp2
    go_ret
    exact ⟨rfl, rfl⟩
  have h1' : ¬ (t.size : Int) < 1 := by omega
  by_cases h3 : 3 < t.size
  · have h3' : (3 : Int) < (t.size : Int) := by omega
    rw [show octV t = -1 from if_pos (Or.inr (Or.inl h3))]
    go_enter Try.func51, Try.ntmps51
    go_wp2
    go_ret
    exact ⟨rfl, rfl⟩
  have h3' : ¬ (3 : Int) < (t.size : Int) := by omega
  have hb0 := byteAt_in t 0 (by omega)
  by_cases hz : 1 < t.size ∧ byteAt t 0 = 48
  · obtain ⟨z1, z2⟩ := id hz
    have z1' : (1 : Int) < (t.size : Int) := by omega
    rw [z2] at hb0
    rw [show octV t = -1 from if_pos (Or.inr (Or.inr hz))]
    clear hz z2
    go_enter Try.func51, Try.ntmps51
    go_wp2
    go_ret
    exact ⟨rfl, rfl⟩
  have HV : Hid (octV t = if 255 < octG t t.size 0 0 then -1 else octG t t.size 0 0) := by
    show _ = _
    unfold octV; rw [if_neg (by omega)]
  have body : ∀ (d : Bool), ((1 < t.size) → decide (byteAt t 0 = 48) = false) → Calls Try.prog 51 #[.string t] w fun e w' => e = .returned (.int .i64 (octV t)) ∧ w' = w := by
    intro _ hd
    by_cases hl : 1 < t.size
    all_goals
      first
        | (have hl2 : (1 : Int) < (t.size : Int) := by omega
           have hne : (byteAt t 0 == 48) = false := by have := hd hl; simpa using this)
        | (have hl2 : ¬ (1 : Int) < (t.size : Int) := by omega)
      clear hd hz
      generalize byteAt t 0 = b0 at *
      go_enter Try.func51, Try.ntmps51
      go_wp2
      go_loopw [3, 4] (fun a b wr => ∃ (k : Nat) (n : Int), a = .int .i64 n ∧ b = .int .i64 k ∧ k ≤ t.size ∧ 0 ≤ n ∧ Hid (n < 10 ^ k) ∧ Hid (octG t (t.size - k) k n = octG t t.size 0 0) ∧ wr = w) (fun _ b _ => t.size - (intOf b).toNat)
      case atStart => exact ⟨0, 0, rfl, rfl, by omega, by omega, by show (0 : Int) < 1; omega, rfl, rfl⟩
      case round =>
        obtain ⟨k, n, rfl, rfl, hk, n0, HN, HR, rfl⟩ := hrel
        have HP : Hid ((10 : Int) ^ k ≤ 1000) := by
          show _ ≤ _
          rcases (by omega : k = 0 ∨ k = 1 ∨ k = 2 ∨ k = 3) with rfl | rfl | rfl | rfl <;> decide
        have n1 : n < 1000 := by have := HN.out; have := HP.out; omega
        by_cases hlt : k < t.size
        · have hbt := byteAt_in t k hlt
          have bd := byteAt_bd t k
          have hk2 : (k : Int) < (t.size : Int) := by omega
          have HU : Hid (t.size - k = (t.size - (k + 1)) + 1) := by show _ = _; omega
          have HS : Hid (∀ f, octG t (f + 1) k n = if 48 ≤ byteAt t k ∧ byteAt t k ≤ 57 then octG t f (k + 1) (10 * n + (byteAt t k - 48)) else -1) := fun _ => rfl
          generalize byteAt t k = c at *
          by_cases hd : 48 ≤ c ∧ c ≤ 57
          · have HF : Hid (octG t (t.size - (k + 1)) (k + 1) (10 * n + (c - 48)) = octG t t.size 0 0) := by
              show _ = _
              rw [← HR.out, HU.out, HS.out, if_pos hd]
            have HN2 : Hid (10 * n + (c - 48) < 10 ^ (k + 1)) := by
              show _ < _
              have := HN.out
              rw [Int.pow_succ]; omega
            obtain ⟨d0, d1⟩ := hd
            have d0' : ¬ c < 48 := by omega
            have d1' : ¬ 57 < c := by omega
            clear HS HU HR HN HP HV
            go_wp2
            go_roundw
            case rel => exact ⟨k + 1, 10 * n + (c - 48), by go_num, by go_num, by omega, by omega, HN2, HF, trivial⟩
            case measure => simp [intOf]; omega
          · have HF : Hid (octV t = -1) := by
              show _ = _
              rw [HV.out, ← HR.out, HU.out, HS.out, if_neg hd]; rfl
            clear HS HU HR HN HP HV
            by_cases d0 : c < 48
            · go_wp2
              go_ret
              exact ⟨by rw [HF.out]; rfl, rfl⟩
            · have d1 : 57 < c := by omega
              go_wp2
              go_ret
              exact ⟨by rw [HF.out]; rfl, rfl⟩
        · have hk2 : ¬ (k : Int) < (t.size : Int) := by omega
          have HE : Hid (octG t t.size 0 0 = n) := by
            show _ = _
            have e : t.size - k = 0 := by omega
            rw [← HR.out, e]; rfl
          by_cases h255 : 255 < n
          · have HF : Hid (octV t = -1) := by show _ = _; rw [HV.out, HE.out, if_pos h255]
            clear HR HN HP HV HE
            go_wp2
            go_ret
            exact ⟨by rw [HF.out]; rfl, rfl⟩
          · have HF : Hid (octV t = n) := by show _ = _; rw [HV.out, HE.out, if_neg h255]
            clear HR HN HP HV HE
            go_wp2
            go_ret
            exact ⟨by rw [HF.out]; rfl, rfl⟩
  exact body true (fun hl => by simp; intro q; exact hz ⟨hl, q⟩)

def grG (t : ByteArray) : Nat → Nat → Int → Int
  | 0, _, n => n
  | f + 1, k, n => if hexB (byteAt t k) = true then grG t f (k + 1) (16 * n + hexV (byteAt t k)) else -1
def grV (t : ByteArray) : Int := if t.size < 1 ∨ 4 < t.size then -1 else grG t t.size 0 0

set_option maxHeartbeats 4000000 in
theorem rgroup_any (t : ByteArray) (w : World) (hs : t.size ≤ maxLen) :
    Calls Try.prog 52 #[.string t] w fun e w' => e = .returned (.int .i64 (grV t)) ∧ w' = w := by
  unfold maxLen at hs
  by_cases h1 : t.size < 1
  · have h1' : (t.size : Int) < 1 := by omega
    rw [show grV t = -1 from if_pos (Or.inl h1)]
    go_enter Try.func52, Try.ntmps52
    go_wp2
    go_ret
    exact ⟨rfl, rfl⟩
  have h1' : ¬ (t.size : Int) < 1 := by omega
  by_cases h3 : 4 < t.size
  · have h3' : (4 : Int) < (t.size : Int) := by omega
    rw [show grV t = -1 from if_pos (Or.inr h3)]
    go_enter Try.func52, Try.ntmps52
    go_wp2
    go_ret
    exact ⟨rfl, rfl⟩
  have h3' : ¬ (4 : Int) < (t.size : Int) := by omega
  have HV : Hid (grV t = grG t t.size 0 0) := by
    show _ = _
    unfold grV; rw [if_neg (by omega)]
  go_enter Try.func52, Try.ntmps52
  go_wp2
  go_loopw [3, 4] (fun a b wr => ∃ (k : Nat) (n : Int), a = .int .i64 n ∧ b = .int .i64 k ∧ k ≤ t.size ∧ 0 ≤ n ∧ Hid (n < 16 ^ k) ∧ Hid (grG t (t.size - k) k n = grG t t.size 0 0) ∧ wr = w) (fun _ b _ => t.size - (intOf b).toNat)
  case atStart => exact ⟨0, 0, rfl, rfl, by omega, by omega, by show (0 : Int) < 1; omega, rfl, rfl⟩
  case round =>
    obtain ⟨k, n, rfl, rfl, hk, n0, HN, HR, rfl⟩ := hrel
    have HP : Hid ((16 : Int) ^ k ≤ 65536) := by
      show _ ≤ _
      rcases (by omega : k = 0 ∨ k = 1 ∨ k = 2 ∨ k = 3 ∨ k = 4) with rfl | rfl | rfl | rfl | rfl <;> decide
    have n1 : n < 65536 := by have := HN.out; have := HP.out; omega
    by_cases hlt : k < t.size
    · have hbt := byteAt_in t k hlt
      have bd := byteAt_bd t k
      have hk2 : (k : Int) < (t.size : Int) := by omega
      have HU : Hid (t.size - k = (t.size - (k + 1)) + 1) := by show _ = _; omega
      have HS : Hid (∀ f, grG t (f + 1) k n = if hexB (byteAt t k) = true then grG t f (k + 1) (16 * n + hexV (byteAt t k)) else -1) := fun _ => rfl
      generalize byteAt t k = c at *
      have HD : Hid (hexB c = true → grG t (t.size - (k + 1)) (k + 1) (16 * n + hexV c) = grG t t.size 0 0) := fun hd => by
        rw [← HR.out, HU.out, HS.out, if_pos hd]
      have HE : Hid (hexB c = false → grV t = -1) := fun hd => by
        rw [HV.out, ← HR.out, HU.out, HS.out, if_neg (by simp [hd])]
      have HN2 : Hid (16 * n + hexV c < 16 ^ (k + 1)) := by
        show _ < _
        have := HN.out
        have := hexV_bd c
        rw [Int.pow_succ]; omega
      have hvb := hexV_bd c
      clear HS HU HR HN HP HV
      rcases hex_ways c with ⟨a, p, q⟩ | ⟨a, b, p, q⟩ | ⟨a, b, p, q⟩ | ⟨a, b, p, q⟩ | ⟨a, b, p, q⟩ | ⟨a, b, p, q⟩ | ⟨a, p, q⟩
      · have HF : Hid (grV t = -1) := HE.out p
        clear HD HE HN2 p q hvb
        go_wp2
        go_ret
        exact ⟨by rw [HF.out]; rfl, rfl⟩
      · have HF : Hid _ := HD.out p
        rw [q] at HF HN2
        have b' : ¬ 57 < c := by omega
        clear HD HE p q hvb
        go_wp2
        go_roundw
        case rel => exact ⟨k + 1, 16 * n + (c - 48), by go_num, by go_num, by omega, by omega, HN2, HF, trivial⟩
        case measure => simp [intOf]; omega
      · have HF : Hid (grV t = -1) := HE.out p
        clear HD HE HN2 p q hvb
        go_wp2
        go_ret
        exact ⟨by rw [HF.out]; rfl, rfl⟩
      · have HF : Hid _ := HD.out p
        rw [q] at HF HN2
        clear HD HE p q hvb
        have e1 : 16 * n + (c + 32 - 97 + 10) = 16 * n + (c - 65) + 10 := by omega
        rw [e1] at HF HN2
        clear e1
        go_wp2
        go_roundw
        case rel => exact ⟨k + 1, 16 * n + (c - 65) + 10, by go_num, by go_num, by omega, by omega, HN2, HF, trivial⟩
        case measure => simp [intOf]; omega
      · have HF : Hid (grV t = -1) := HE.out p
        clear HD HE HN2 p q hvb
        go_wp2
        go_ret
        exact ⟨by rw [HF.out]; rfl, rfl⟩
      · have HF : Hid _ := HD.out p
        rw [q] at HF HN2
        clear HD HE p q hvb
        have e1 : 16 * n + (c - 97 + 10) = 16 * n + (c - 97) + 10 := by omega
        rw [e1] at HF HN2
        clear e1
        go_wp2
        go_roundw
        case rel => exact ⟨k + 1, 16 * n + (c - 97) + 10, by go_num, by go_num, by omega, by omega, HN2, HF, trivial⟩
        case measure => simp [intOf]; omega
      · have HF : Hid (grV t = -1) := HE.out p
        clear HD HE HN2 p q hvb
        go_wp2
        go_ret
        exact ⟨by rw [HF.out]; rfl, rfl⟩
    · have hk2 : ¬ (k : Int) < (t.size : Int) := by omega
      have HF : Hid (grV t = n) := by
        show _ = _
        have e : t.size - k = 0 := by omega
        rw [HV.out, ← HR.out, e]; rfl
      clear HR HN HP HV
      go_wp2
      go_ret
      exact ⟨by rw [HF.out]; rfl, rfl⟩

def gapG (t : ByteArray) : Nat → Nat → Int
  | 0, _ => -1
  | f + 1, i => if i + 1 < t.size then (if byteAt t i = 58 ∧ byteAt t (i + 1) = 58 then (i : Int) else gapG t f (i + 1)) else -1
def gapV (t : ByteArray) : Int := gapG t (t.size + 1) 0

set_option maxHeartbeats 2000000 in
theorem gap_any (t : ByteArray) (w : World) (hs : t.size ≤ 1000) :
    Calls Try.prog 27 #[.string t] w fun e w' => e = .returned (.int .i64 (gapV t)) ∧ w' = w := by
  go_enter Try.func27, Try.ntmps27
  go_wp2
  go_loopw [3] (fun b wr => ∃ (f k : Nat), b = .int .i64 k ∧ k ≤ t.size ∧ t.size < k + f ∧ Hid (gapG t f k = gapV t) ∧ wr = w) (fun b _ => t.size - (intOf b).toNat)
  case atStart => exact ⟨t.size + 1, 0, rfl, by omega, by omega, rfl, rfl⟩
  case round =>
    obtain ⟨f, k, rfl, hk, hf, HR, rfl⟩ := hrel
    obtain ⟨f, rfl⟩ : ∃ g, f = g + 1 := ⟨f - 1, by omega⟩
    have hu : IntKind.i64.wrap ((k : Int) + 1) = (k : Int) + 1 := by rw [IntKind.wrap_i64]; omega
    by_cases hlt : k + 1 < t.size
    · have hbt := byteAt_in t k (by omega)
      have hbt1 := byteAt_in t (k + 1) hlt
      have hk1 : (k : Int) < (t.size : Int) := by omega
      have hk2 : (k : Int) + 1 < (t.size : Int) := by omega
      have HS : Hid (gapG t (f + 1) k = if byteAt t k = 58 ∧ byteAt t (k + 1) = 58 then (k : Int) else gapG t f (k + 1)) := if_pos hlt
      generalize byteAt t k = c at *
      generalize byteAt t (k + 1) = d at *
      by_cases hc : c = 58
      · by_cases hd : d = 58
        · have HF : Hid (gapV t = k) := by show _ = _; rw [← HR.out, HS.out, if_pos ⟨hc, hd⟩]
          subst hc hd
          clear HS HR
          go_wp2
          go_ret
          exact ⟨by rw [HF.out]; rfl, rfl⟩
        · have HF : Hid (gapG t f (k + 1) = gapV t) := by show _ = _; rw [← HR.out, HS.out, if_neg (by simp [hd])]
          have hdb : (d == 58) = false := by simp [hd]
          subst hc
          clear HS HR
          go_wp2
          go_roundw
          case rel => exact ⟨f, k + 1, by go_num, by omega, by omega, HF, trivial⟩
          case measure => simp [intOf]; omega
      · have HF : Hid (gapG t f (k + 1) = gapV t) := by show _ = _; rw [← HR.out, HS.out, if_neg (by simp [hc])]
        have hcb : (c == 58) = false := by simp [hc]
        clear HS HR
        go_wp2
        go_roundw
        case rel => exact ⟨f, k + 1, by go_num, by omega, by omega, HF, trivial⟩
        case measure => simp [intOf]; omega
    · have hk2 : ¬ (k : Int) + 1 < (t.size : Int) := by omega
      have HF : Hid (gapV t = -1) := by show _ = _; rw [← HR.out]; exact if_neg hlt
      clear HR
      go_wp2
      go_ret
      exact ⟨by rw [HF.out]; rfl, rfl⟩
end Go.Proofs.Ytldjeabdoooihaa
