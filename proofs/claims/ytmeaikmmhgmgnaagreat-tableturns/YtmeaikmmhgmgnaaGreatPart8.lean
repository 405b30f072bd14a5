/-
  Part 8 of the proof: 5 texts, one behind the other.
-/
import Derived.Test.YtmeaikmmhgmgnaaGreatPart7
import Derived.Test.YtmeaikmmhgmgnaaGreatPart1
import Derived.Deep.QuietTactic
import Derived.BigQuiet
namespace Go.Proofs.YtmeaikmmhgmgnaaGreat
open Go.RowKit
set_option linter.unusedSimpArgs false
set_option linter.unusedVariables false

def kdS (s : ByteArray) (k : Nat) : Int := if k = s.size then 2 else if byteAt s k = 32 ∨ byteAt s k = 9 then 1 else if byteAt s k = 35 ∨ byteAt s k = 10 then 2 else 0
theorem kdS_end (s : ByteArray) : kdS s s.size = 2 := by unfold kdS; rw [if_pos rfl]
theorem kdS_in {s : ByteArray} {k : Nat} (h : ¬ kdS s k = 2) (hk : k ≤ s.size) : k < s.size := by
  apply Classical.byContradiction; intro q
  have : k = s.size := by omega
  rw [this, kdS_end] at h
  exact h rfl
theorem kdS_ways (s : ByteArray) (k : Nat) : kdS s k = 0 ∨ kdS s k = 1 ∨ kdS s k = 2 := by
  unfold kdS
  split
  · exact .inr (.inr rfl)
  · split
    · exact .inr (.inl rfl)
    · split
      · exact .inr (.inr rfl)
      · exact .inl rfl
def skB (s : ByteArray) : Nat → Nat → Nat
  | 0, k => k
  | f + 1, k => if kdS s k = 1 then skB s f (k + 1) else k
def skS (s : ByteArray) (k : Nat) : Nat := skB s (s.size - k) k
def wdB (s : ByteArray) : Nat → Nat → Nat
  | 0, k => k
  | f + 1, k => if kdS s k = 0 then wdB s f (k + 1) else k
def wdS (s : ByteArray) (k : Nat) : Nat := wdB s (s.size - k) k
theorem skS_go {s : ByteArray} {k : Nat} (hk : k ≤ s.size) (h : kdS s k = 1) : skS s k = skS s (k + 1) := by
  have := kdS_in (s := s) (k := k) (by omega) hk
  unfold skS
  rw [show s.size - k = (s.size - (k + 1)) + 1 by omega]
  show (if kdS s k = 1 then _ else _) = _
  rw [if_pos h]
theorem skS_here {s : ByteArray} {k : Nat} (h : ¬ kdS s k = 1) : skS s k = k := by
  unfold skS
  match hf : s.size - k with
  | 0 => rfl
  | f + 1 => show (if kdS s k = 1 then _ else _) = _; rw [if_neg h]
theorem wdS_go {s : ByteArray} {k : Nat} (hk : k ≤ s.size) (h : kdS s k = 0) : wdS s k = wdS s (k + 1) := by
  have := kdS_in (s := s) (k := k) (by omega) hk
  unfold wdS
  rw [show s.size - k = (s.size - (k + 1)) + 1 by omega]
  show (if kdS s k = 0 then _ else _) = _
  rw [if_pos h]
theorem wdS_here {s : ByteArray} {k : Nat} (h : ¬ kdS s k = 0) : wdS s k = k := by
  unfold wdS
  match hf : s.size - k with
  | 0 => rfl
  | f + 1 => show (if kdS s k = 0 then _ else _) = _; rw [if_neg h]
theorem skS_bd (s : ByteArray) : ∀ (d k : Nat), s.size - k ≤ d → k ≤ s.size → k ≤ skS s k ∧ skS s k ≤ s.size ∧ ¬ kdS s (skS s k) = 1
  | d, k, hd, hk => by
    by_cases h : kdS s k = 1
    · have := kdS_in (s := s) (k := k) (by omega) hk
      rw [skS_go hk h]
      match d, hd with
      | d + 1, hd =>
        have q := skS_bd s d (k + 1) (by omega) (by omega)
        exact ⟨by omega, q.2.1, q.2.2⟩
      | 0, hd => omega
    · rw [skS_here h]; exact ⟨Nat.le_refl _, hk, h⟩
theorem wdS_bd (s : ByteArray) : ∀ (d k : Nat), s.size - k ≤ d → k ≤ s.size → k ≤ wdS s k ∧ wdS s k ≤ s.size ∧ ¬ kdS s (wdS s k) = 0
  | d, k, hd, hk => by
    by_cases h : kdS s k = 0
    · have := kdS_in (s := s) (k := k) (by omega) hk
      rw [wdS_go hk h]
      match d, hd with
      | d + 1, hd =>
        have q := wdS_bd s d (k + 1) (by omega) (by omega)
        exact ⟨by omega, q.2.1, q.2.2⟩
      | 0, hd => omega
    · rw [wdS_here h]; exact ⟨Nat.le_refl _, hk, h⟩
def nhR (t : ByteArray) : Nat → Nat → Int → Option Int
  | 0, _, n => some n
  | f + 1, k, n => if byteAt t k < 48 ∨ 57 < byteAt t k then none else if hopB (10 * n + (byteAt t k - 48)) = true then nhR t f (k + 1) (10 * n + (byteAt t k - 48)) else none
def nhO (t : ByteArray) : Option Int := nhR t t.size 0 0
def entO (F : Int) (s : ByteArray) (a : Nat) : (Int × Nat) ⊕ (Rte × Nat) :=
  if ppE F (s.extract a (wdS s a)) = 0 then
    (if kdS s (skS s (wdS s a)) = 0 then
      (match nhO (s.extract (skS s (wdS s a)) (wdS s (skS s (wdS s a)))) with
        | none => .inl (15, skS s (wdS s a))
        | some h => if kdS s (skS s (wdS s (skS s (wdS s a)))) = 0 then .inl (12, skS s (wdS s (skS s (wdS s a)))) else .inr (((ppV F (s.extract a (wdS s a)), ppN F (s.extract a (wdS s a))), h), skS s (wdS s (skS s (wdS s a)))))
    else .inl (12, skS s (wdS s a)))
  else .inl (ppE F (s.extract a (wdS s a)), a)
def nlS (s : ByteArray) (k : Nat) : Int := Lib.indexByte (s.extract k s.size).data.toList 10
theorem nlS_bd (s : ByteArray) (k : Nat) (hk : k ≤ s.size) : nlS s k = -1 ∨ (0 ≤ nlS s k ∧ (k : Int) + nlS s k < s.size) := by
  have := indexByte_bd 10 (s.extract k s.size).data.toList
  have e : (s.extract k s.size).data.toList.length = s.size - k := by
    have q : (s.extract k s.size).size = min s.size s.size - k := ByteArray.size_extract
    rw [Array.length_toList]
    show (s.extract k s.size).size = _
    omega
  rw [e] at this
  unfold nlS
  omega
end Go.Proofs.YtmeaikmmhgmgnaaGreat
namespace Go.Proofs.YtmeaikmmhgmgnaaGreat
open Go.RowKit
set_option linter.unusedSimpArgs false
set_option linter.unusedVariables false

def HpI (k : Nat) (n : Int) : Prop := (k = 0 ∧ n = 0) ∨ (k = 1 ∧ 1 ≤ n ∧ n ≤ 9) ∨ (k = 2 ∧ 10 ≤ n ∧ n ≤ 99) ∨ (k = 3 ∧ 100 ≤ n ∧ n ≤ 999) ∨ (k = 4 ∧ 1000 ≤ n ∧ n ≤ 9999) ∨ (k = 5 ∧ 10000 ≤ n ∧ n ≤ 99999)
theorem nhR_long (t : ByteArray) : ∀ (f k : Nat) (n : Int), 1 ≤ n → (6 ≤ k + f) → HpI k n → nhR t f k n = none
  | 0, k, n, h1, h2, h3 => by unfold HpI at h3; omega
  | f + 1, k, n, h1, h2, h3 => by
    show (if byteAt t k < 48 ∨ 57 < byteAt t k then none else if hopB (10 * n + (byteAt t k - 48)) = true then nhR t f (k + 1) (10 * n + (byteAt t k - 48)) else none) = none
    by_cases c : byteAt t k < 48 ∨ 57 < byteAt t k
    · rw [if_pos c]
    · rw [if_neg c]
      by_cases d : hopB (10 * n + (byteAt t k - 48)) = true
      · rw [if_pos d]
        have d' : 1 ≤ 10 * n + (byteAt t k - 48) ∧ 10 * n + (byteAt t k - 48) ≤ 65535 := by unfold hopB at d; simpa using d
        refine nhR_long t f (k + 1) _ d'.1 (by omega) ?_
        unfold HpI at h3 ⊢
        omega
      · rw [if_neg d]
theorem nhO_long {t : ByteArray} (h : 5 < t.size) : nhO t = none := by
  unfold nhO
  obtain ⟨f, hf⟩ : ∃ f, t.size = f + 1 := ⟨t.size - 1, by omega⟩
  rw [hf]
  show (if byteAt t 0 < 48 ∨ 57 < byteAt t 0 then none else if hopB (10 * 0 + (byteAt t 0 - 48)) = true then nhR t f (0 + 1) (10 * 0 + (byteAt t 0 - 48)) else none) = none
  by_cases c : byteAt t 0 < 48 ∨ 57 < byteAt t 0
  · rw [if_pos c]
  · rw [if_neg c]
    by_cases d : hopB (10 * 0 + (byteAt t 0 - 48)) = true
    · rw [if_pos d]
      have d' : 1 ≤ 10 * 0 + (byteAt t 0 - 48) ∧ 10 * 0 + (byteAt t 0 - 48) ≤ 65535 := by unfold hopB at d; simpa using d
      refine nhR_long t f 1 _ d'.1 (by omega) ?_
      unfold HpI
      omega
    · rw [if_neg d]
theorem nhO_zero {t : ByteArray} (h : 0 < t.size) (h0 : byteAt t 0 = 48) : nhO t = none := by
  unfold nhO
  obtain ⟨f, hf⟩ : ∃ f, t.size = f + 1 := ⟨t.size - 1, by omega⟩
  rw [hf]
  show (if byteAt t 0 < 48 ∨ 57 < byteAt t 0 then none else if hopB (10 * 0 + (byteAt t 0 - 48)) = true then _ else none) = none
  rw [h0]
  rfl
def hpV (t : ByteArray) : Int := match nhO t with
  | none => -1
  | some h => h
set_option maxRecDepth 20000 in
set_option maxHeartbeats 4000000 in
theorem rhop_any (t : ByteArray) (w : World) (hs0 : 0 < t.size) (hs : t.size ≤ 1000000000) :
    Calls Tryz.prog 52 #[.string t] w fun e w' => e = .returned (.int .i64 (hpV t)) ∧ w' = w := by
  by_cases hl : 5 < t.size
  · have HE : Hid (hpV t = -1) := by show _ = _; unfold hpV; rw [nhO_long hl]
    have l1 : ¬ (t.size : Int) < 1 := by omega
    have l2 : (5 : Int) < (t.size : Int) := by omega
    go_enter Tryz.func52, Tryz.ntmps52
    go_wp2
    go_ret
    exact ⟨by rw [HE.out]; rfl, rfl⟩
  · have l1 : ¬ (t.size : Int) < 1 := by omega
    have l2 : ¬ (5 : Int) < (t.size : Int) := by omega
    have l3 : (0 : Int) < (t.size : Int) := by omega
    have hb0 := byteAt_in t 0 hs0
    have H0 : Hid (byteAt t 0 = 48 → nhO t = none) := hidR (fun h => nhO_zero hs0 h)
    by_cases hz : byteAt t 0 = 48
    · have HE : Hid (hpV t = -1) := by show _ = _; unfold hpV; rw [H0.out hz]
      clear H0
      generalize byteAt t 0 = c0 at *
      subst hz
      go_enter Tryz.func52, Tryz.ntmps52
      go_wp2
      go_ret
      exact ⟨by rw [HE.out]; rfl, rfl⟩
    · have Hz0 := hidR hz
      clear H0
      have HR0 : Hid (nhR t (t.size - 0) 0 0 = nhO t) := hidR rfl
      have Hb : Hid (∀ k, k = 0 → byteAt t k ≠ 48) := hidR (fun k e => by rw [e]; exact hz)
      generalize byteAt t 0 = c0 at *
      go_enter Tryz.func52, Tryz.ntmps52
      go_wp2_with fail
      clear hz Hz0 hb0
      go_loopw [3, 4] (fun a b wr => ∃ (k : Nat) (n : Int), a = .int .i64 n ∧ b = .int .i64 k ∧ k ≤ t.size ∧ Hid (HpI k n ∧ ((n ≤ 65535 ∧ nhR t (t.size - k) k n = nhO t) ∨ (65535 < n ∧ k = t.size ∧ nhO t = none))) ∧ wr = w) (fun _ b _ => t.size - (intOf b).toNat)
      case atStart => exact ⟨0, 0, rfl, rfl, by omega, hidR ⟨.inl ⟨rfl, rfl⟩, .inl ⟨by omega, HR0.out⟩⟩, rfl⟩
      case round =>
        clear HR0
        obtain ⟨k, n, rfl, rfl, hk, HR, rfl⟩ := hrel
        obtain ⟨hP, hR⟩ := HR.out
        by_cases hlt : k < t.size
        · have hbt := byteAt_in t k hlt
          have bd := byteAt_bd t k
          have hR1 : n ≤ 65535 ∧ nhR t (t.size - k) k n = nhO t := by
            rcases hR with h | h
            · exact h
            · omega
          have hU : t.size - k = (t.size - (k + 1)) + 1 := by omega
          have hS : nhO t = if byteAt t k < 48 ∨ 57 < byteAt t k then none else if hopB (10 * n + (byteAt t k - 48)) = true then nhR t (t.size - (k + 1)) (k + 1) (10 * n + (byteAt t k - 48)) else none := by
            rw [← hR1.2, hU]; rfl
          have hk0 := Hb.out k
          have HS := hidR hS
          have HPk := hidR hP
          have hn0 : 0 ≤ n ∧ n ≤ 9999 := by unfold HpI at hP; omega
          have HK0 := hidR hk0
          clear hS hR hR1 hU HR hP hk0
          generalize byteAt t k = c at *
          have hk2 : (k : Int) < (t.size : Int) := by omega
          by_cases d0 : c < 48
          · have HF : Hid (hpV t = -1) := by
              show _ = _
              unfold hpV; rw [HS.out, if_pos (Or.inl d0)]
            clear HS HPk HK0
            go_wp2
            go_ret
            exact ⟨by rw [HF.out]; rfl, rfl⟩
          by_cases d1 : 57 < c
          · have HF : Hid (hpV t = -1) := by
              show _ = _
              unfold hpV; rw [HS.out, if_pos (Or.inr d1)]
            clear HS HPk HK0
            go_wp2
            go_ret
            exact ⟨by rw [HF.out]; rfl, rfl⟩
          · have u1 : IntKind.u8.wrap (c - 48) = c - 48 := by simp [IntKind.wrap, IntKind.bits, IntKind.signed]; omega
            have u2 : IntKind.i64.wrap (10 * n) = 10 * n := by rw [IntKind.wrap_i64]; omega
            have u3 : IntKind.i64.wrap (10 * n + (c - 48)) = 10 * n + (c - 48) := by rw [IntKind.wrap_i64]; omega
            have u4 : IntKind.i64.wrap (c - 48) = c - 48 := by rw [IntKind.wrap_i64]; omega
            have wk : IntKind.i64.wrap ((k : Int) + 1) = ((k + 1 : Nat) : Int) := by rw [IntKind.wrap_i64]; push_cast; omega
            have HN : Hid (HpI (k + 1) (10 * n + (c - 48)) ∧ ((10 * n + (c - 48) ≤ 65535 ∧ nhR t (t.size - (k + 1)) (k + 1) (10 * n + (c - 48)) = nhO t) ∨ (65535 < 10 * n + (c - 48) ∧ k + 1 = t.size ∧ nhO t = none))) := by
              have hp := HPk.out
              have h0 := HK0.out
              refine hidR ⟨?_, ?_⟩
              · unfold HpI at hp ⊢; omega
              · have hs := HS.out
                rw [if_neg (by omega)] at hs
                by_cases hb : hopB (10 * n + (c - 48)) = true
                · left
                  have d' : 1 ≤ 10 * n + (c - 48) ∧ 10 * n + (c - 48) ≤ 65535 := by unfold hopB at hb; simpa using hb
                  rw [if_pos hb] at hs
                  exact ⟨d'.2, hs.symm⟩
                · right
                  rw [if_neg hb] at hs
                  have d' : ¬ (1 ≤ 10 * n + (c - 48) ∧ 10 * n + (c - 48) ≤ 65535) := fun q => hb (by unfold hopB; simpa using q)
                  unfold HpI at hp
                  exact ⟨by omega, by omega, hs⟩
            clear HS HPk HK0
            go_wp2_with fail
            go_roundw
            case rel => exact ⟨k + 1, _, rfl, rfl, by omega, HN, by first | trivial | rfl⟩
            case measure => simp [intOf]; omega
        · obtain rfl : k = t.size := by omega
          by_cases hb : 65535 < n
          · have HF : Hid (hpV t = -1) := by
              show _ = _
              rcases hR with h | h
              · omega
              · unfold hpV; rw [h.2.2]
            clear hR HR hP
            go_wp2
            go_ret
            exact ⟨by rw [HF.out]; rfl, rfl⟩
          · have HF : Hid (hpV t = n) := by
              show _ = _
              rcases hR with h | h
              · have := h.2
                rw [Nat.sub_self] at this
                unfold hpV; rw [← this]; rfl
              · omega
            clear hR HR hP
            go_wp2
            go_ret
            exact ⟨by rw [HF.out]; rfl, rfl⟩
end Go.Proofs.YtmeaikmmhgmgnaaGreat
namespace Go.Proofs.YtmeaikmmhgmgnaaGreat
open Go.RowKit
set_option linter.unusedSimpArgs false
set_option linter.unusedVariables false

def bNw (t : ByteArray) : Nat → Nat
  | 0 => 0
  | c + 1 => wdS t (skS t (bNw t c))
def aNw (t : ByteArray) (c : Nat) : Nat := skS t (bNw t c)
theorem bNw_le (t : ByteArray) : ∀ c, bNw t c ≤ t.size
  | 0 => Nat.zero_le _
  | c + 1 => (wdS_bd t _ _ (Nat.le_refl _) (skS_bd t _ _ (Nat.le_refl _) (bNw_le t c)).2.1).2.1
theorem aNw_bd (t : ByteArray) (c : Nat) : bNw t c ≤ aNw t c ∧ aNw t c ≤ bNw t (c + 1) ∧ aNw t c ≤ t.size := by
  have h1 := skS_bd t _ _ (Nat.le_refl _) (bNw_le t c)
  exact ⟨h1.1, (wdS_bd t _ _ (Nat.le_refl _) h1.2.1).1, h1.2.1⟩
def ats (t : ByteArray) (c : Nat) : List Nat := (List.range c).map (aNw t)
def tos (t : ByteArray) (c : Nat) : List Nat := (List.range c).map (fun q => bNw t (q + 1))
theorem ats_succ (t : ByteArray) (c : Nat) : ats t (c + 1) = ats t c ++ [aNw t c] := by unfold ats; rw [List.range_succ, List.map_append]; rfl
theorem tos_succ (t : ByteArray) (c : Nat) : tos t (c + 1) = tos t c ++ [bNw t (c + 1)] := by unfold tos; rw [List.range_succ, List.map_append]; rfl
theorem ats_get (t : ByteArray) (c q : Nat) (h : q < c) : (ats t c)[q]? = some (aNw t q) := by unfold ats; simp [h]
theorem tos_get (t : ByteArray) (c q : Nat) (h : q < c) : (tos t c)[q]? = some (bNw t (q + 1)) := by unfold tos; simp [h]
def rowN (l : List Nat) : List Value := l.map fun (n : Nat) => .int .i64 (n : Int)
theorem rowN_app (l m : List Nat) : rowN (l ++ m) = rowN l ++ rowN m := List.map_append
theorem rowN_get {l : List Nat} {j n : Nat} (h : l[j]? = some n) : (rowN l)[j]? = some (.int .i64 (n : Int)) := by unfold rowN; simp [h]
def enR (F : Int) (t : ByteArray) : Rte × Bool × Int × Int :=
  if kdS t (aNw t 0) = 0 then (match entO F t (aNw t 0) with
    | .inl (e, p) => (((0#128, 0), 0), true, e, (p : Int) + 1)
    | .inr (r, _) => (r, true, 0, 0)) else (((0#128, 0), 0), false, 0, 0)
theorem enR_none {F : Int} {t : ByteArray} (h : ¬ kdS t (aNw t 0) = 0) : enR F t = (((0#128, 0), 0), false, 0, 0) := if_neg h
theorem bNw_s (t : ByteArray) (c : Nat) : wdS t (aNw t c) = bNw t (c + 1) := rfl
theorem aNw_s (t : ByteArray) (c : Nat) : skS t (bNw t c) = aNw t c := rfl
theorem enR_pfx {F : Int} {t : ByteArray} (h : kdS t (aNw t 0) = 0) (e : ppE F (t.extract (aNw t 0) (bNw t 1)) ≠ 0) : enR F t = (((0#128, 0), 0), true, ppE F (t.extract (aNw t 0) (bNw t 1)), (aNw t 0 : Int) + 1) := by
  unfold enR entO
  simp only [bNw_s, aNw_s, Nat.zero_add, if_pos h, if_neg e]
theorem enR_one {F : Int} {t : ByteArray} (h : kdS t (aNw t 0) = 0) (e : ppE F (t.extract (aNw t 0) (bNw t 1)) = 0) (h1 : ¬ kdS t (aNw t 1) = 0) : enR F t = (((0#128, 0), 0), true, 12, (aNw t 1 : Int) + 1) := by
  unfold enR entO
  simp only [bNw_s, aNw_s, Nat.zero_add, if_pos h, if_pos e, if_neg h1]
theorem enR_hop {F : Int} {t : ByteArray} (h : kdS t (aNw t 0) = 0) (e : ppE F (t.extract (aNw t 0) (bNw t 1)) = 0) (h1 : kdS t (aNw t 1) = 0) (hn : nhO (t.extract (aNw t 1) (bNw t 2)) = none) : enR F t = (((0#128, 0), 0), true, 15, (aNw t 1 : Int) + 1) := by
  unfold enR entO
  simp only [bNw_s, aNw_s, Nat.zero_add, Nat.reduceAdd, if_pos h, if_pos e, if_pos h1, hn]
theorem enR_three {F : Int} {t : ByteArray} {hp : Int} (h : kdS t (aNw t 0) = 0) (e : ppE F (t.extract (aNw t 0) (bNw t 1)) = 0) (h1 : kdS t (aNw t 1) = 0) (hn : nhO (t.extract (aNw t 1) (bNw t 2)) = some hp) (h3 : kdS t (aNw t 2) = 0) : enR F t = (((0#128, 0), 0), true, 12, (aNw t 2 : Int) + 1) := by
  unfold enR entO
  simp only [bNw_s, aNw_s, Nat.zero_add, Nat.reduceAdd, if_pos h, if_pos e, if_pos h1, hn, if_pos h3]
theorem enR_ok {F : Int} {t : ByteArray} {hp : Int} (h : kdS t (aNw t 0) = 0) (e : ppE F (t.extract (aNw t 0) (bNw t 1)) = 0) (h1 : kdS t (aNw t 1) = 0) (hn : nhO (t.extract (aNw t 1) (bNw t 2)) = some hp) (h3 : ¬ kdS t (aNw t 2) = 0) : enR F t = (((ppV F (t.extract (aNw t 0) (bNw t 1)), ppN F (t.extract (aNw t 0) (bNw t 1))), hp), true, 0, 0) := by
  unfold enR entO
  simp only [bNw_s, aNw_s, Nat.zero_add, Nat.reduceAdd, if_pos h, if_pos e, if_pos h1, hn, if_neg h3]
theorem hpV_none {t : ByteArray} (h : hpV t < 0) : nhO t = none ∨ ∃ x, nhO t = some x ∧ x < 0 := by
  unfold hpV at h
  match hn : nhO t with
  | none => exact .inl rfl
  | some x => rw [hn] at h; exact .inr ⟨x, rfl, h⟩
theorem nhR_pos (t : ByteArray) : ∀ (f k : Nat) (n x : Int), 0 ≤ n → nhR t f k n = some x → 0 ≤ x
  | 0, k, n, x, h, e => by injection e with e; omega
  | f + 1, k, n, x, h, e => by
    have e' : (if byteAt t k < 48 ∨ 57 < byteAt t k then none else if hopB (10 * n + (byteAt t k - 48)) = true then nhR t f (k + 1) (10 * n + (byteAt t k - 48)) else none) = some x := e
    split at e'
    · cases e'
    · split at e'
      · exact nhR_pos t f (k + 1) _ x (by omega) e'
      · cases e'
theorem hp_lt {t : ByteArray} (h : hpV t < 0) : nhO t = none := by
  rcases hpV_none h with q | ⟨x, q, hx⟩
  · exact q
  · have := nhR_pos t _ _ _ x (Int.le_refl 0) q; omega
theorem hp_ge {t : ByteArray} (h : ¬ hpV t < 0) : nhO t = some (hpV t) := by
  unfold hpV at h ⊢
  match hn : nhO t with
  | none => rw [hn] at h; simp at h
  | some x => rfl
end Go.Proofs.YtmeaikmmhgmgnaaGreat
namespace Go.Proofs.YtmeaikmmhgmgnaaGreat
open Go.RowKit
set_option linter.unusedSimpArgs false
set_option linter.unusedVariables false

theorem q_run {P : Program} {ops : Array Oper} {C : World → Prop} {Q : Act → Prop} {a : Act} {o : Oper} {rest : List Oper} {v : Value}
    (hw : Region.wanted o (yielded ops a.tmps) = true) (h : ∀ w, C w → (execOp a.eval o).run P w = .ok (.value v) w) (k : wpQuiet P ops C Q rest (a.put o.dst v)) : wpQuiet P ops C Q (o :: rest) a := by
  refine wpQuiet_step (fun K hK => ?_)
  rw [if_pos hw]
  refine ⟨v, fun w hC => ?_, hK _ k⟩
  unfold Oper.quietAt; rw [h w hC]; exact ⟨rfl, rfl⟩
theorem q_skip {P : Program} {ops : Array Oper} {C : World → Prop} {Q : Act → Prop} {a : Act} {o : Oper} {rest : List Oper}
    (hw : Region.wanted o (yielded ops a.tmps) = false) (k : wpQuiet P ops C Q rest (a.put o.dst undef)) : wpQuiet P ops C Q (o :: rest) a := by
  refine wpQuiet_step (fun K hK => ?_)
  rw [if_neg (by rw [hw]; decide)]
  exact hK _ k
theorem q_call {P : Program} {ops : Array Oper} {C : World → Prop} {Q : Act → Prop} {a : Act} {o : Oper} {rest : List Oper} {v : Value} {f : FuncId} {args : Array Value}
    (hw : Region.wanted o (yielded ops a.tmps) = true) (h : ∀ w, C w → (execOp a.eval o).run P w = .ok (.enter f args) w) (hc : ∀ w, C w → Calls P f args w fun e w' => e = .returned v ∧ C w') (k : wpQuiet P ops C Q rest (a.put o.dst v)) : wpQuiet P ops C Q (o :: rest) a := by
  refine wpQuiet_step (fun K hK => ?_)
  rw [if_pos hw]
  refine ⟨v, fun w hC => ?_, hK _ k⟩
  unfold Oper.quietAt; rw [h w hC]; exact ⟨rfl, hc w hC⟩
theorem q_region {P : Program} {C : World → Prop} {id : Nat} {Q : Exit → Act → World → Prop} {a : Act} {w : World} {l : List Oper} (hm : P.follows .mixedOrders = true) (hB : Region.lexB .any l.toArray = true) (hC : C w.drew)
    (h : wpQuiet P l.toArray C (fun a' => ∀ w', C w' → Q .normal a' w') l a) : (Code.region id l.toArray true).wp P Q a w :=
  wp_region_quiet (C := C) hm hB hC (by simpa using h)
end Go.Proofs.YtmeaikmmhgmgnaaGreat
namespace Go.Proofs.YtmeaikmmhgmgnaaGreat
open Go.RowKit
set_option linter.unusedSimpArgs false
set_option linter.unusedVariables false

section
variable {P : Program}

theorem put_size (a : Act) (dst : Option Tmp) (v : Value) : (a.put dst v).tmps.size = a.tmps.size := by
  unfold Act.put; cases dst <;> simp
theorem put_other (a : Act) (dst : Option Tmp) (v : Value) (s : Nat) (h : dst ≠ some s) : (a.put dst v).tmps[s]? = a.tmps[s]? := by
  unfold Act.put
  cases dst with
  | none => rfl
  | some d =>
    have : d ≠ s := fun e => h (by rw [e])
    simp [Array.getElem?_setIfInBounds, this]
theorem put_same {a : Act} {dst : Option Tmp} {v v' : Value} (h : ∀ s, dst = some s → (a.put dst v).tmps[s]? = (a.put dst v').tmps[s]?) : a.put dst v = a.put dst v' := by
  cases dst with
  | none => rfl
  | some d =>
    have := h d rfl
    unfold Act.put at *
    simp only at this ⊢
    by_cases c : d < a.tmps.size
    · simp [Array.getElem?_setIfInBounds, c] at this
      rw [this]
    · have c' : a.tmps.size ≤ d := Nat.le_of_not_lt c
      rw [Array.setIfInBounds_eq_of_size_le c', Array.setIfInBounds_eq_of_size_le c']
theorem q_fin {ops : Array Oper} {C : World → Prop} {A : Act} {md : Region.Mode} : ∀ (fuel : Nat) (listed : Array Bool) (a : Act), wpAnyQ P md ops C (fun a' => a' = A) fuel listed a →
    ∀ s : Nat, (∀ i o, ops[i]? = some o → listed.getD i true = false → o.dst ≠ some s) → A.tmps[s]? = a.tmps[s]? := by
  intro fuel
  induction fuel with
  | zero => intro listed a h s _; rw [h.2]
  | succ fuel ih =>
    intro listed a h s hs
    cases hr : Region.ready md ops listed with
    | nil => rw [h.1 hr]
    | cons i rs =>
      have hi : i ∈ Region.ready md ops listed := by rw [hr]; simp
      obtain ⟨hun, o, ho, _⟩ := mem_ready.1 hi
      obtain ⟨v, _, hK⟩ := yieldsIn_of_qOp ho (h.2 i hi)
      have := ih _ _ hK s (fun k ok hk hl => hs k ok hk (by
        by_cases e : i = k
        · subst e; exact hun
        · rw [getD_set_ne true e] at hl; exact hl))
      rw [this]
      exact put_other _ _ _ _ (hs i o ho hun)

def rep (l : List Oper) (j : Nat) (N : Value) : List Oper := l.modify j fun o => { o with op := .assign (.const N) }
theorem rep_len (l : List Oper) (j : Nat) (N : Value) : (rep l j N).length = l.length := by unfold rep; simp
theorem rep_ne (l : List Oper) (j : Nat) (N : Value) (i : Nat) (h : i ≠ j) : (rep l j N)[i]? = l[i]? := by
  unfold rep; rw [List.getElem?_modify]; simp [Ne.symm h]
theorem rep_same (l : List Oper) (j : Nat) (N : Value) (i : Nat) : ((rep l j N)[i]?).map (fun o => (o.dst, o.after, o.guard)) = (l[i]?).map (fun o => (o.dst, o.after, o.guard)) := by
  unfold rep
  rw [List.getElem?_modify]
  cases l[i]? <;> simp
  split <;> simp
theorem rep_of (l : List Oper) (j : Nat) (N : Value) (i : Nat) (o : Oper) (h : l[i]? = some o) : ∃ o', (rep l j N)[i]? = some o' ∧ o'.dst = o.dst ∧ o'.after = o.after ∧ o'.guard = o.guard := by
  have := rep_same l j N i
  rw [h] at this
  cases e : (rep l j N)[i]? with
  | none => rw [e] at this; simp at this
  | some o' => rw [e] at this; simp at this; exact ⟨o', rfl, this.1, this.2.1, this.2.2⟩
theorem rep_yield (l : List Oper) (j : Nat) (N : Value) (tmps : Array Value) (k : Nat) : yielded (rep l j N).toArray tmps k = yielded l.toArray tmps k := by
  unfold yielded
  have := rep_same l j N k
  simp only [List.getElem?_toArray]
  cases e : l[k]? with
  | none =>
    cases e' : (rep l j N)[k]? with
    | none => rfl
    | some o => rw [e, e'] at this; simp at this
  | some o =>
    cases e' : (rep l j N)[k]? with
    | none => rw [e, e'] at this; simp at this
    | some o' => rw [e, e'] at this; simp at this; simp [this.1]
theorem yield_take (l : List Oper) (m : Nat) (tmps : Array Value) (k : Nat) (hk : k < m) : yielded (l.take m).toArray tmps k = yielded l.toArray tmps k := by
  unfold yielded
  simp [List.getElem?_take, hk]
def seqB (md : Region.Mode) (ops : Array Oper) : Nat → Nat → Array Bool → Bool
  | 0, _, listed => Region.ready md ops listed == []
  | f + 1, k, listed => (Region.ready md ops listed == [k]) && seqB md ops f (k + 1) (listed.setIfInBounds k true)
theorem any_seq {md : Region.Mode} {ops : Array Oper} {Q : Exit → Act → World → Prop} : ∀ (l : List Oper) (k : Nat) (listed : Array Bool) (a : Act) (w : World), (∀ i, l[i]? = ops[k + i]?) → seqB md ops l.length k listed = true →
    wpList P ops Q l a w → wpAny P md ops Q l.length listed a w
  | [], k, listed, a, w, _, hB, h => by
    simp only [List.length_nil, seqB, beq_iff_eq] at hB
    exact ⟨hB, h⟩
  | o :: l, k, listed, a, w, hl, hB, h => by
    simp only [List.length_cons, seqB, Bool.and_eq_true, beq_iff_eq] at hB
    refine ⟨fun e => (by rw [hB.1] at e; cases e), fun i hi => ?_⟩
    rw [hB.1] at hi
    have e : i = k := by simpa using hi
    subst e
    have h0 : ops[i]? = some o := by simpa using (hl 0).symm
    unfold wpOp
    simp only [h0]
    have ih : ∀ a w, wpList P ops Q l a w → wpAny P md ops Q l.length (listed.setIfInBounds i true) a w := fun a w h => any_seq l (i + 1) (listed.setIfInBounds i true) a w (fun q => by have := hl (q + 1); simpa [Nat.add_assoc, Nat.add_comm 1 q] using this) hB.2 h
    unfold wpList at h
    split
    · rename_i hw
      rw [if_pos hw] at h
      exact h.imp (Oper.wp_mono ih) id
    · rename_i hw
      rw [if_neg hw] at h
      exact ih _ _ h

theorem get_app_lt (lp : Array Bool) (p i : Nat) (h : i < lp.size) (d : Bool) : (lp ++ Array.replicate p false).getD i d = lp.getD i d := by
  simp [Array.getElem?_append, h]
theorem get_app_false (lp : Array Bool) (p i : Nat) : (lp ++ Array.replicate p false).getD i false = lp.getD i false := by
  by_cases h : i < lp.size
  · exact get_app_lt lp p i h false
  · simp [Array.getElem?_append, h, Array.getElem?_replicate]
    split <;> rfl
theorem set_app (lp : Array Bool) (p i : Nat) (h : i < lp.size) : (lp ++ Array.replicate p false).setIfInBounds i true = lp.setIfInBounds i true ++ Array.replicate p false := by
  apply Array.ext
  · simp
  · intro q h1 h2
    rw [Array.getElem_setIfInBounds (hj := by simpa using h1)]
    rw [Array.getElem_append, Array.getElem_append]
    by_cases c : i = q
    · subst c
      simp [h]
    · rw [if_neg c]
      simp only [Array.size_setIfInBounds]
      split
      · rw [Array.getElem_setIfInBounds, if_neg c]
      · rfl
def unl (lp : Array Bool) : Nat := lp.toList.count false
theorem count_set : ∀ (l : List Bool) (i : Nat), l[i]? = some false → (l.set i true).count false + 1 = l.count false := by
  intro l
  induction l with
  | nil => intro i h; simp at h
  | cons b l ih =>
    intro i h
    cases i with
    | zero => simp at h; subst h; simp
    | succ i =>
      have := ih i (by simpa using h)
      simp only [List.set_cons_succ, List.count_cons]
      omega
theorem unl_set (lp : Array Bool) (i : Nat) (h : lp.getD i true = false) : unl (lp.setIfInBounds i true) + 1 = unl lp := by
  unfold unl
  rw [Array.toList_setIfInBounds]
  apply count_set
  rw [Array.getElem?_toList]
  cases e : lp[i]? with
  | none => rw [Array.getD_eq_getD_getElem?, e] at h; simp at h
  | some b => rw [Array.getD_eq_getD_getElem?, e] at h; simp at h; rw [h]
theorem unl_zero (lp : Array Bool) (h : unl lp = 0) : lp = Array.replicate lp.size true := by
  unfold unl at h
  rw [List.count_eq_zero] at h
  apply Array.ext
  · simp
  · intro i h1 h2
    simp
    cases e : lp[i] with
    | true => rfl
    | false => exact absurd (by rw [← e]; simp) h
theorem unl_some (lp : Array Bool) (f : Nat) (h : unl lp = f + 1) : ∃ k, k < lp.size ∧ lp.getD k true = false := by
  unfold unl at h
  have : false ∈ lp.toList := List.count_pos_iff.mp (by omega)
  obtain ⟨k, hk, e⟩ := List.getElem_of_mem this
  have hk' : k < lp.size := by simpa using hk
  exact ⟨k, hk', by rw [Array.getD_eq_getD_getElem?]; simp [hk']; simpa using e⟩
def waitB (l : List Oper) (m : Nat) : Bool := (l.drop m).all fun o => (List.range m).all fun k => o.after.any fun e => Region.binds .any e && e.on == k
theorem ready_pre (l : List Oper) (m j : Nat) (N : Value) (hml : m ≤ l.length) (hw : waitB l m = true) (lp : Array Bool) (hs : lp.size = m) (f : Nat) (hu : unl lp = f + 1) (i : Nat)
    (hi : i ∈ Region.ready .any l.toArray (lp ++ Array.replicate (l.length - m) false)) : i < m ∧ i ∈ Region.ready .any (rep (l.take m) j N).toArray lp := by
  obtain ⟨hun, o, ho, hall⟩ := mem_ready.1 hi
  have ho' : l[i]? = some o := by simpa using ho
  have him : i < m := by
    apply Classical.byContradiction
    intro c
    obtain ⟨k, hk, hf⟩ := unl_some lp f hu
    have hmem : o ∈ l.drop m := by
      have : (l.drop m)[i - m]? = some o := by rw [List.getElem?_drop, show m + (i - m) = i by omega]; exact ho'
      exact List.mem_of_getElem? this
    have h1 := List.all_eq_true.mp hw o hmem
    have h2 := List.all_eq_true.mp h1 k (List.mem_range.mpr (by omega))
    obtain ⟨e, he, heq⟩ := Array.any_eq_true'.mp h2
    simp only [Bool.and_eq_true, beq_iff_eq] at heq
    have h3 := hall e he heq.1
    rw [heq.2, get_app_false] at h3
    rw [Array.getD_eq_getD_getElem?] at h3 hf
    cases q : lp[k]? with
    | none => rw [q] at h3; simp at h3
    | some b => rw [q] at h3 hf; simp at h3 hf; rw [h3] at hf; cases hf
  refine ⟨him, mem_ready.2 ⟨by rw [get_app_lt lp _ i (by omega)] at hun; exact hun, ?_⟩⟩
  obtain ⟨o', h1, h2, h3, h4⟩ := rep_of (l.take m) j N i o (by rw [List.getElem?_take, if_pos him]; exact ho')
  refine ⟨o', by simpa using h1, fun e he hb => ?_⟩
  rw [h3] at he
  have := hall e he hb
  rwa [get_app_false] at this

theorem wanted_rep (l : List Oper) (m j : Nat) (N : Value) (a : Act) (o o' : Oper) (hg : o'.guard = o.guard) (hlt : ∀ k b, o.guard = some (k, b) → k < m) : Region.wanted o' (yielded (rep (l.take m) j N).toArray a.tmps) = Region.wanted o (yielded l.toArray a.tmps) := by
  unfold Region.wanted
  rw [hg]
  cases e : o.guard with
  | none => rfl
  | some kb =>
    obtain ⟨k, b⟩ := kb
    simp only
    rw [rep_yield, yield_take l m a.tmps k (hlt k b e)]
theorem wp_of_yields {ops ops' : Array Oper} {C : World → Prop} {Q : Exit → Act → World → Prop} {i : Nat} {o : Oper} {v : Value} {a : Act} {w : World} {K : Act → World → Prop} (ho : ops[i]? = some o) (hw : Region.wanted o (yielded ops' a.tmps) = Region.wanted o (yielded ops a.tmps))
    (hy : YieldsIn P ops' C o v a) (hC : C w) (h : ∀ w', C w' → K (a.put o.dst v) w') : wpOp P ops Q i K a w := by
  unfold wpOp
  simp only [ho]
  rcases hy with ⟨h1, h2⟩ | ⟨h1, h2⟩
  · rw [if_pos (by rw [← hw]; exact h1)]
    exact .inl (Oper.wp_of_quiet (K := fun a' => a' = a.put o.dst v) hC (fun a' w' hw' e => by rw [e]; exact h w' hw') ⟨v, h2, rfl⟩)
  · rw [if_neg (by rw [← hw, h1]; decide)]
    rw [← h2]
    exact h w hC
structure QpOk (l : List Oper) (m j : Nat) : Prop where
  ml : m ≤ l.length
  lex : ∀ N, Region.lexB .any (rep (l.take m) j N).toArray = true
  wait : waitB l m = true
  seq : seqB .any l.toArray (l.length - m) m (Array.replicate m true ++ Array.replicate (l.length - m) false) = true
  guards : ∀ (i : Nat) o, l[i]? = some o → ∀ k b, o.guard = some (k, b) → k < m
  edges : ∀ (i : Nat) o, l[i]? = some o → ∀ e ∈ o.after, Region.binds .any e = true → e.on < i
structure AlOk (l : List Oper) (m j : Nat) (oj : Oper) : Prop extends QpOk l m j where
  jm : j < m
  here : l[j]? = some oj
  guard : oj.guard = none
  dst : ∀ i k oi ok s, l[i]? = some oi → l[k]? = some ok → i < m → k < m → oi.dst = some s → ok.dst = some s → i = k
def guardsB (l : List Oper) (m : Nat) : Bool := l.all fun o => match o.guard with | some (k, _) => decide (k < m) | none => true
theorem guards_of {l : List Oper} {m : Nat} (h : guardsB l m = true) : ∀ (i : Nat) o, l[i]? = some o → ∀ k b, o.guard = some (k, b) → k < m := by
  intro i o ho k b hg
  have := List.all_eq_true.mp h o (List.mem_of_getElem? ho)
  rw [hg] at this
  simpa using this
def edgesB (l : List Oper) : Bool := (List.range l.length).all fun i => match l[i]? with | some o => o.after.all fun e => !Region.binds .any e || decide (e.on < i) | none => true
theorem edges_of {l : List Oper} (h : edgesB l = true) : ∀ (i : Nat) o, l[i]? = some o → ∀ e ∈ o.after, Region.binds .any e = true → e.on < i := by
  intro i o ho e he hb
  have hi : i < l.length := (List.getElem?_eq_some_iff.mp ho).1
  have h1 := List.all_eq_true.mp h i (List.mem_range.mpr hi)
  simp only [ho] at h1
  have := Array.all_eq_true_iff_forall_mem.1 h1 e he
  simpa [hb] using this
def dstB (l : List Oper) (m : Nat) : Bool := (List.range m).all fun i => (List.range m).all fun k => (i == k) || !((l[i]?).bind (·.dst)).isSome || (l[i]?).bind (·.dst) != (l[k]?).bind (·.dst)
theorem dst_of {l : List Oper} {m : Nat} (h : dstB l m = true) : ∀ i k oi ok s, l[i]? = some oi → l[k]? = some ok → i < m → k < m → oi.dst = some s → ok.dst = some s → i = k := by
  intro i k oi ok s h1 h2 h3 h4 h5 h6
  have a := List.all_eq_true.mp h i (List.mem_range.mpr h3)
  have b := List.all_eq_true.mp a k (List.mem_range.mpr h4)
  rw [h1, h2] at b
  simp [h5, h6] at b
  exact b
theorem qpOk {l : List Oper} (m j : Nat) (h1 : m ≤ l.length) (h2 : ∀ N, Region.lexB .any (rep (l.take m) j N).toArray = true) (h3 : waitB l m = true)
    (h4 : seqB .any l.toArray (l.length - m) m (Array.replicate m true ++ Array.replicate (l.length - m) false) = true) (h5 : guardsB l m = true) (h6 : edgesB l = true) : QpOk l m j :=
  ⟨h1, h2, h3, h4, guards_of h5, edges_of h6⟩
theorem alOk {l : List Oper} {m j : Nat} {oj : Oper} (q : QpOk l m j) (h1 : j < m) (h2 : l[j]? = some oj) (h3 : oj.guard = none) (h4 : dstB l m = true) : AlOk l m j oj := ⟨q, h1, h2, h3, dst_of h4⟩
theorem erase_get (l l' : List Value) (d s : Nat) (h : l.eraseIdx d = l'.eraseIdx d) (hs : s ≠ d) : l[s]? = l'[s]? := by
  rcases Nat.lt_or_gt_of_ne hs with q | q
  · have := congrArg (fun x => x[s]?) h
    simpa [List.getElem?_eraseIdx, q] using this
  · have := congrArg (fun x => x[s - 1]?) h
    simp only [List.getElem?_eraseIdx] at this
    rw [if_neg (by omega), if_neg (by omega), show s - 1 + 1 = s by omega] at this
    exact this
theorem alA {l : List Oper} {m j : Nat} {oj : Oper} (ok : AlOk l m j oj) {A : Nat → Act} (d : Nat) (hd : oj.dst = some d) (h : ∀ N, (A N).tmps.toList.eraseIdx d = (A 0).tmps.toList.eraseIdx d) :
    ∀ (i : Nat) o s N, l[i]? = some o → i < m → i ≠ j → o.dst = some s → (A N).tmps[s]? = (A 0).tmps[s]? := by
  intro i o s N ho hi hij hs
  have : s ≠ d := fun e => hij (ok.dst i j o oj s ho ok.here hi ok.jm hs (by rw [hd, e]))
  have := erase_get _ _ d s (h N) this
  simpa using this
theorem some_ready {l : List Oper} {m j : Nat} (ok : QpOk l m j) (lp : Array Bool) (hs : lp.size = m) : ∀ k, k < m → lp.getD k true = false → Region.ready .any l.toArray (lp ++ Array.replicate (l.length - m) false) ≠ [] := by
  intro k
  induction k using Nat.strongRecOn with
  | ind k ih =>
    intro hk hf hr
    have hkl : k < l.length := by have := ok.ml; omega
    by_cases c : ∀ e ∈ (l[k]).after, Region.binds .any e = true → (lp ++ Array.replicate (l.length - m) false).getD e.on false = true
    · have : k ∈ Region.ready .any l.toArray (lp ++ Array.replicate (l.length - m) false) := mem_ready.2 ⟨by rw [get_app_lt lp _ k (by omega)]; exact hf, l[k], by simp [hkl], c⟩
      rw [hr] at this
      cases this
    · simp only [Classical.not_forall] at c
      obtain ⟨e, he, hb, hn⟩ := c
      have hlt := ok.edges k l[k] (by simp [hkl]) e he hb
      rw [get_app_false] at hn
      refine ih e.on hlt (by omega) ?_ hr
      have hlt2 : e.on < lp.size := by omega
      rw [Array.getD_eq_getD_getElem?] at hn ⊢
      simp [hlt2] at hn ⊢
      exact hn
theorem done_any {l : List Oper} {m j : Nat} (ok : QpOk l m j) {C : World → Prop} {N : Value} {A : Act} {Q : Exit → Act → World → Prop}
    (hpost : ∀ w, C w → wpList P l.toArray Q (l.drop m) A w) : ∀ (fuel : Nat) (lp : Array Bool) (a : Act) (w : World), lp.size = m → unl lp = fuel → (j < m → lp.getD j false = true) → C w →
      wpAnyQ P .any (rep (l.take m) j N).toArray C (fun a' => a' = A) fuel lp a → wpAny P .any l.toArray Q (fuel + (l.length - m)) (lp ++ Array.replicate (l.length - m) false) a w := by
  intro fuel
  induction fuel with
  | zero =>
    intro lp a w hs hu hj hC h
    rw [h.2, unl_zero lp hu, hs, Nat.zero_add, show l.length - m = (l.drop m).length by simp]
    refine any_seq (l.drop m) m _ A w (fun i => by simp) ?_ (hpost w hC)
    have := ok.seq
    rwa [show l.length - m = (l.drop m).length by simp] at this
  | succ fuel ih =>
    intro lp a w hs hu hj hC h
    rw [show fuel + 1 + (l.length - m) = (fuel + (l.length - m)) + 1 by omega]
    have key : ∀ i ∈ Region.ready .any l.toArray (lp ++ Array.replicate (l.length - m) false), wpOp P l.toArray Q i (wpAny P .any l.toArray Q (fuel + (l.length - m)) ((lp ++ Array.replicate (l.length - m) false).setIfInBounds i true)) a w := by
      intro i hi
      obtain ⟨him, hir⟩ := ready_pre l m j N ok.ml ok.wait lp hs fuel hu i hi
      obtain ⟨hun, _⟩ := mem_ready.1 hir
      have hij : i ≠ j := by
        intro e
        subst e
        have hj := hj him
        rw [Array.getD_eq_getD_getElem?] at hun hj
        cases q : lp[i]? with
        | none => rw [q] at hun; simp at hun
        | some b => rw [q] at hun hj; simp at hun hj; rw [hun] at hj; cases hj
      obtain ⟨_, o, ho, _⟩ := mem_ready.1 hi
      have ho' : l[i]? = some o := by simpa using ho
      have hor : (rep (l.take m) j N).toArray[i]? = some o := by
        simp only [List.getElem?_toArray]
        rw [rep_ne _ _ _ _ hij, List.getElem?_take, if_pos him]; exact ho'
      obtain ⟨v, hy, hK⟩ := yieldsIn_of_qOp hor (h.2 i hir)
      refine wp_of_yields ho (wanted_rep l m j N a o o rfl (ok.guards i o ho')) hy hC (fun w' hw' => ?_)
      rw [set_app lp _ i (by omega)]
      refine ih _ _ w' (by simp [hs]) (by have := unl_set lp i hun; omega) ?_ hw' hK
      exact fun q => getD_set_true (hj q)
    refine ⟨fun e => ?_, key⟩
    obtain ⟨k, hk, hf⟩ := unl_some lp fuel hu
    exact absurd e (some_ready ok lp hs k (by omega) hf)
def readB (l : List Oper) (m : Nat) (oj : Oper) (rd : List Nat) : Bool := rd.all fun s => (List.range m).all fun k => ((l[k]?).bind (·.dst)) != some s || oj.after.any fun e => Region.binds .any e && e.on == k
theorem read_of {l : List Oper} {m : Nat} {oj : Oper} {rd : List Nat} (h : readB l m oj rd = true) : ∀ s ∈ rd, ∀ (k : Nat) o, l[k]? = some o → k < m → o.dst = some s → ∃ e ∈ oj.after, Region.binds .any e = true ∧ e.on = k := by
  intro s hs k o ho hk hd
  have a := List.all_eq_true.mp h s hs
  have b := List.all_eq_true.mp a k (List.mem_range.mpr hk)
  rw [ho] at b
  simp only [Option.bind_some, hd, bne_self_eq_false, Bool.false_or] at b
  obtain ⟨e, he, heq⟩ := Array.any_eq_true'.mp b
  simp only [Bool.and_eq_true, beq_iff_eq] at heq
  exact ⟨e, he, heq.1, heq.2⟩
theorem rep_out (l : List Oper) (j : Nat) (N : Value) (h : l.length ≤ j) : rep l j N = l := by
  apply List.ext_getElem?
  intro i
  by_cases c : i = j
  · subst c
    rw [List.getElem?_eq_none (by rw [rep_len]; exact h), List.getElem?_eq_none h]
  · exact rep_ne l j N i c
theorem qp_region {id : Nat} {l : List Oper} (m : Nat) (ok : QpOk l m m) {C : World → Prop} {A : Act} {Q : Exit → Act → World → Prop} {a : Act} {w : World} (hm : P.follows .mixedOrders = true)
    (hC : C w.drew) (hwalk : wpQuiet P (l.take m).toArray C (fun a' => a' = A) (l.take m) a) (hpost : ∀ w, C w → wpList P l.toArray Q (l.drop m) A w) : (Code.region id l.toArray true).wp P Q a w := by
  refine wp_region_any hm ?_
  have hml := ok.ml
  have hlen : (l.take m).length = m := by rw [List.length_take]; omega
  have any : wpAnyQ P .any (l.take m).toArray C (fun a' => a' = A) m (Array.replicate m false) a := by
    have hB := ok.lex undef
    rw [rep_out _ _ _ (by omega)] at hB
    simp only [Region.lexB, Bool.and_eq_true] at hB
    have := wpAnyQ_lex (C := C) (md := .any) hB.1 (l.take m) 0 (Array.replicate m false) a (by simp) (by have := hB.2; simpa [hlen, hml] using this) hwalk
    rwa [hlen] at this
  have hu : unl (Array.replicate m false) = m := by unfold unl; simp
  have main := done_any (P := P) (N := undef) ok hpost m (Array.replicate m false) a w.drew (by simp) hu (fun q => absurd q (Nat.lt_irrefl _)) hC (by rw [rep_out _ _ _ (by omega)]; exact any)
  have e1 : m + (l.length - m) = l.toArray.size := by simp; omega
  have e2 : Array.replicate m false ++ Array.replicate (l.length - m) false = Array.replicate l.toArray.size false := by
    rw [Array.replicate_append_replicate]; congr 1
  rw [e1, e2] at main
  exact main
def putAll (a : Act) : List (Option Tmp) → List Value → Act
  | d :: ds, v :: vs => putAll (a.put d v) ds vs
  | _, _ => a
theorem qp_region2 {id : Nat} {l : List Oper} (m : Nat) (ok : QpOk l m m) {C : World → Prop} {Q : Exit → Act → World → Prop} {a : Act} {w : World} (ds : List (Option Tmp)) (vals : List Value) (hm : P.follows .mixedOrders = true)
    (hC : C w.drew) (hwalk : wpQuiet P (l.take m).toArray C (fun a' => a' = putAll a ds vals) (l.take m) a) (hpost : ∀ w, C w → wpList P l.toArray Q (l.drop m) (putAll a ds vals) w) : (Code.region id l.toArray true).wp P Q a w :=
  qp_region m ok (A := putAll a ds vals) hm hC hwalk hpost
end
end Go.Proofs.YtmeaikmmhgmgnaaGreat
