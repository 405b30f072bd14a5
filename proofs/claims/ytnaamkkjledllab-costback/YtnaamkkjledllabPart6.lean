/-
  Part 6 of the proof: 3 texts, one behind the other.
-/
import Derived.Test.YtnaamkkjledllabPart4
import Derived.Laws.IdiomStrings
import Derived.Lib.Strings
import Derived.Test.YtnaamkkjledllabPart5
/-
  What the call of package cost's isNumber does.
-/
namespace Go.Proofs.Ytnaamkkjledllab
open Go.RowKit
set_option linter.unusedSimpArgs false
set_option linter.unusedVariables false

/-- The byte at place k, as a number (0 where there is none). -/
def bAt9 (s : ByteArray) (k : Nat) : Int := if h : k < s.size then (s[k].toNat : Int) else 0
theorem bAt9_in (s : ByteArray) (k : Nat) (h : k < s.size) : (s[k].toNat : Int) = bAt9 s k := by unfold bAt9; rw [dif_pos h]
theorem bAt9_bd (s : ByteArray) (k : Nat) : 0 ≤ bAt9 s k ∧ bAt9 s k ≤ 255 := by
  unfold bAt9; split
  · rename_i h; have := s[k].toNat_lt; omega
  · omega
/-- Is it a digit? -/
def dig9 (c : Int) : Bool := decide (48 ≤ c ∧ c ≤ 57)
def all9 (s : ByteArray) : Nat → Bool
  | 0 => true
  | k + 1 => all9 s k && dig9 (bAt9 s k)
theorem all9_le (s : ByteArray) : ∀ k m, k ≤ m → all9 s m = true → all9 s k = true := by
  intro k m h
  induction m with
  | zero => intro q; have : k = 0 := by omega
            subst this; exact q
  | succ m ih =>
    intro q
    by_cases e : k = m + 1
    · subst e; exact q
    · simp only [all9, Bool.and_eq_true] at q
      exact ih (by omega) q.1
/-- Is it the text of a number? -/
def num9 (s : ByteArray) : Bool := decide (¬ s.size = 0 ∧ (bAt9 s 0 = 48 → s.size = 1)) && all9 s s.size
theorem ba_ext {s t : ByteArray} (h : s.data.toList = t.data.toList) : s = t := by
  cases s; cases t; simp at h; simp [h]
theorem empty9 (s : ByteArray) : s.toList.isEmpty = decide (s.size = 0) := by
  obtain ⟨d⟩ := s
  obtain ⟨l⟩ := d
  rw [Lib.toList_data]
  cases l with
  | nil => rfl
  | cons a l => simp [ByteArray.size]
theorem more9 (s : ByteArray) (h : ¬ s.size = 1) : (s.toList == [48]) = false := by
  obtain ⟨d⟩ := s
  obtain ⟨l⟩ := d
  rw [Lib.toList_data]
  match l, h with
  | [], _ => rfl
  | [a], h => exact absurd rfl h
  | a :: b :: l, _ => simp
theorem one9 (s : ByteArray) (h : s.size = 1) : (s.toList == [48]) = true ↔ bAt9 s 0 = 48 := by
  obtain ⟨d⟩ := s
  obtain ⟨l⟩ := d
  rw [Lib.toList_data]
  match l, h with
  | [a], _ =>
    have e : bAt9 ⟨⟨[a]⟩⟩ 0 = (a.toNat : Int) := rfl
    rw [e]
    constructor
    · intro q
      have : a = 48 := by simpa using q
      subst this; rfl
    · intro q
      have : a = 48 := by apply UInt8.toNat_inj.mp; show a.toNat = 48; omega
      subst this; rfl
set_option maxRecDepth 20000 in
set_option maxHeartbeats 2000000 in
theorem isNumber_any (s : ByteArray) (w : World) (hs : s.size ≤ maxLen) :
    Calls Try.prog 11 #[.string s] w fun e w' => e = .returned (.bool (num9 s)) ∧ w' = w := by
  unfold maxLen at hs
  by_cases h0 : s.size = 0
  · have e0 := empty9 s
    rw [decide_eq_true h0] at e0
    have hr : num9 s = false := by unfold num9; simp [h0]
    rw [hr]
    go_enter Try.func11, Try.ntmps11
    go_wp2
    go_ret
    exact ⟨rfl, rfl⟩
  · have e0 := empty9 s
    rw [decide_eq_false h0] at e0
    have hb0 := bAt9_in s 0 (by omega)
    have hsz : 0 < s.size := by omega
    have hi0 : (0 : Int) < s.size := by omega
    have loop : ∀ (hp : num9 s = all9 s s.size) (hd : (bAt9 s 0 == 48) = false ∨ (bAt9 s 0 = 48 ∧ (s.toList == [48]) = true)), Calls Try.prog 11 #[.string s] w fun e w' => e = .returned (.bool (num9 s)) ∧ w' = w := by
      intro hp hd
      have HR := hid9 hp
      have HS := hid9 hsz
      clear hp
      have HB := hid9 (fun k (hk : k < s.size) => bAt9_in s k hk)
      rcases hd with hd | ⟨hd, hd2⟩
      all_goals
        go_enter Try.func11, Try.ntmps11
        go_wp2_with fail
        go_loopw [17] (fun i wr => ∃ k : Nat, k ≤ s.size ∧ i = .int .i64 k ∧ Hid (all9 s k = true) ∧ wr = w) (fun i _ => s.size - (intOf i).toNat)
        case atStart => exact ⟨0, by omega, rfl, rfl, rfl⟩
        case round =>
          clear hd e0 hb0 hi0
          obtain ⟨k, hk, rfl, HA, rfl⟩ := hrel
          by_cases hlt : (k : Int) < (s.size : Int)
          · have hks : k < s.size := by omega
            have hbt := HB.out k hks
            have bd := bAt9_bd s k
            have HP : Hid (all9 s (k + 1) = (all9 s k && dig9 (bAt9 s k))) := rfl
            have mk : IntKind.i64.wrap ((k : Int) + 1) = (k : Int) + 1 := by rw [IntKind.wrap_i64]; omega
            generalize bAt9 s k = c at *
            by_cases c1 : c < 48
            · have HF : Hid (num9 s = false) := by
                have q : all9 s (k + 1) = false := by rw [HP.out, show dig9 c = false from decide_eq_false (by omega)]; simp
                show _ = _
                rw [HR.out]
                cases e : all9 s s.size with
                | false => rfl
                | true => have := all9_le s (k + 1) s.size (by omega) e; rw [q] at this; cases this
              clear HP
              go_wp2
              go_ret
              exact ⟨by rw [HF.out]; rfl, rfl⟩
            · by_cases c2 : 57 < c
              · have HF : Hid (num9 s = false) := by
                  have q : all9 s (k + 1) = false := by rw [HP.out, show dig9 c = false from decide_eq_false (by omega)]; simp
                  show _ = _
                  rw [HR.out]
                  cases e : all9 s s.size with
                  | false => rfl
                  | true => have := all9_le s (k + 1) s.size (by omega) e; rw [q] at this; cases this
                clear HP
                go_wp2
                go_ret
                exact ⟨by rw [HF.out]; rfl, rfl⟩
              · have HA2 : Hid (all9 s (k + 1) = true) := by show _ = _; rw [HP.out, HA.out, show dig9 c = true from decide_eq_true (by omega)]; rfl
                clear HP HA
                go_wp2
                go_roundw
                case rel => exact ⟨k + 1, by omega, by go_num, HA2, by first | rfl | trivial⟩
                case measure => simp [intOf]; omega
          · have hk8 : k = s.size := by omega
            have HF : Hid (num9 s = true) := by show _ = _; rw [HR.out, ← hk8]; exact HA.out
            have hd : decide ((k : Int) < (s.size : Int)) = false := by simpa using hlt
            clear hk8 HA HR
            go_wp2
            go_ret
            exact ⟨by rw [HF.out]; rfl, rfl⟩
    by_cases h1 : bAt9 s 0 = 48
    · by_cases h2 : s.size = 1
      · refine loop ?_ (.inr ⟨h1, ?_⟩)
        · unfold num9
          rw [decide_eq_true (show ¬ s.size = 0 ∧ (bAt9 s 0 = 48 → s.size = 1) from ⟨h0, fun _ => h2⟩)]
          rfl
        · exact (one9 s h2).2 h1
      · have hr : num9 s = false := by
          unfold num9
          rw [decide_eq_false (show ¬ (¬ s.size = 0 ∧ (bAt9 s 0 = 48 → s.size = 1)) from fun q => h2 (q.2 h1))]
          rfl
        have hne : (s.toList == [48]) = false := more9 s h2
        rw [hr]
        clear loop
        go_enter Try.func11, Try.ntmps11
        go_wp2
        go_ret
        exact ⟨rfl, rfl⟩
    · refine loop ?_ (.inl (by simpa using h1))
      unfold num9
      rw [decide_eq_true (show ¬ s.size = 0 ∧ (bAt9 s 0 = 48 → s.size = 1) from ⟨h0, fun q => absurd q h1⟩)]
      rfl
end Go.Proofs.Ytnaamkkjledllab
/-
  What the call of package cost's Parse does.
-/
namespace Go.Proofs.Ytnaamkkjledllab
open Go.RowKit
set_option linter.unusedSimpArgs false
set_option linter.unusedVariables false

theorem gh_same9 {x y : Array Value} {d s : Nat} (h : x.toList.eraseIdx d = y.toList.eraseIdx d) (hs : s ≠ d) : x[s]? = y[s]? := by
  have := erase_get x.toList y.toList d s h hs
  simpa using this
/-- What is known in a region that makes a number's variable and fills it. -/
structure RC9 (V : World) (t0 t1 t2 : Int) (b5 b6 : Bool) (g : Nat) (W : World) : Prop where
  bel : Below V.heap.size V W
  a : b5 = true → V.heap.size ≤ g ∧ (if b6 = true then AtC W g t0 t1 t2 else AtC W g 0 0 0)
  c : b6 = true → b5 = true
theorem RC9.below {V : World} {t0 t1 t2 : Int} {b5 b6 : Bool} {g : Nat} {W W' : World} (k : RC9 V t0 t1 t2 b5 b6 g W) (hb : Below W.heap.size W W') : RC9 V t0 t1 t2 b5 b6 g W' := ⟨keepb hb k.bel, fun h => ⟨(k.a h).1, by have := (k.a h).2; cases b6 <;> simp at this ⊢ <;> exact this.below hb⟩, k.c⟩
theorem RC9.al {V : World} {t0 t1 t2 : Int} {b6 : Bool} {g : Nat} {W : World} (k : RC9 V t0 t1 t2 false b6 g W) : RC9 V t0 t1 t2 true b6 W.heap.size (W.alloc (.cells #[.int .u64 0, .int .u64 0, .int .u64 0] 24)) := by
  have h6 : b6 = false := by
    cases h : b6 with
    | false => rfl
    | true => exact absurd (k.c h) (by decide)
  have hb := bl1 W (.cells #[.int .u64 0, .int .u64 0, .int .u64 0] 24)
  have ha := atc_new W W.heap.size 0 0 0 24 rfl
  exact ⟨keepb hb k.bel, fun _ => ⟨k.bel.size, by rw [h6, if_neg (by decide)]; exact ha⟩, fun _ => rfl⟩
theorem RC9.st {V : World} {t0 t1 t2 : Int} {b5 : Bool} {g : Nat} {W : World} (k : RC9 V t0 t1 t2 b5 false g W) (h5 : b5 = true) : RC9 V t0 t1 t2 b5 true g (((W.setCell ⟨g, 0, none⟩ (.int .u64 t0)).setCell ⟨g, 1, none⟩ (.int .u64 t1)).setCell ⟨g, 2, none⟩ (.int .u64 t2)) := by
  obtain ⟨h1, h2⟩ := k.a h5
  rw [if_neg (by decide)] at h2
  exact ⟨((k.bel.setCell (p := ⟨g, 0, none⟩) h1 _).setCell (p := ⟨g, 1, none⟩) h1 _).setCell (p := ⟨g, 2, none⟩) h1 _, fun _ => ⟨h1, by rw [if_pos rfl]; exact h2.set t0 t1 t2⟩, fun _ => h5⟩
/-- The number of the first k digits. -/
def val9 (s : ByteArray) : Nat → Nat
  | 0 => 0
  | k + 1 => val9 s k * 10 + (bAt9 s k - 48).toNat
theorem val9_le (s : ByteArray) : ∀ k m, k ≤ m → val9 s k ≤ val9 s m := by
  intro k m h
  induction m with
  | zero => have : k = 0 := by omega
            subst this; exact Nat.le_refl _
  | succ m ih =>
    by_cases e : k = m + 1
    · subst e; exact Nat.le_refl _
    · have := ih (by omega)
      simp only [val9]; omega
/-- What Parse tells. -/
def par9N (s : ByteArray) : Nat := if num9 s = true then fitN (val9 s s.size) else 0
def par9E (s : ByteArray) : Int := if num9 s = true then fitE9 (val9 s s.size) else 12
set_option maxRecDepth 20000 in
set_option maxHeartbeats 8000000 in
theorem parse9_any (s : ByteArray) (w : World) (hs : s.size ≤ maxLen) :
    Calls Try.prog 6 #[.string s] w fun e w' => e = .returned (.tuple #[costV (par9N s), .int .i64 (par9E s)]) ∧ Below w.heap.size w w' := by
  have KN := fun w => isNumber_any s w hs
  unfold maxLen at hs
  have A0 := hid9 (atc_new w w.heap.size 0 0 0 24 rfl)
  have B0 := hid9 (bl1 w (.cells #[.int .u64 0, .int .u64 0, .int .u64 0] 24))
  cases hn : num9 s
  · have e1 : par9N s = 0 ∧ par9E s = 12 := by unfold par9N par9E; rw [hn]; exact ⟨rfl, rfl⟩
    rw [e1.1, e1.2, costV_zero]
    rw [hn] at KN
    go_enter Try.func6, Try.ntmps6
    go_wp2_with fail
    refine (KN _).mono ?_
    rintro e w1 ⟨rfl, rfl⟩
    go_wp2
    exact bodyPost_ret (v := .tuple #[.agg #[.int .u64 0, .int .u64 0, .int .u64 0], .int .i64 12]) (by simp [results, Try.results6, go_sem]) rfl ⟨rfl, B0.out⟩
  · have HP : Hid (par9N s = fitN (val9 s s.size) ∧ par9E s = fitE9 (val9 s s.size)) := by show _ ∧ _; unfold par9N par9E; rw [if_pos hn, if_pos hn]; exact ⟨rfl, rfl⟩
    have HD : Hid (∀ k, k < s.size → 48 ≤ bAt9 s k ∧ bAt9 s k ≤ 57) := by
      intro k hk
      unfold num9 at hn
      simp only [Bool.and_eq_true] at hn
      have h := all9_le s (k + 1) s.size (by omega) hn.2
      simp only [all9, Bool.and_eq_true] at h
      exact of_decide_eq_true h.2
    have HB := hid9 (fun k (hk : k < s.size) => bAt9_in s k hk)
    rw [hn] at KN
    have HN := hid9 hn
    clear hn
    go_enter Try.func6, Try.ntmps6
    go_wp2_with fail
    refine (KN _).mono ?_
    rintro e w1 ⟨rfl, rfl⟩
    clear KN
    have A1 := hid9 (atc_new (w.alloc (.cells #[.int .u64 0, .int .u64 0, .int .u64 0] 24)) (w.heap.size + 1) 0 0 0 24 (by simp))
    have B1 := hid9 (bl1 (w.alloc (.cells #[.int .u64 0, .int .u64 0, .int .u64 0] 24)) (.cells #[.int .u64 0, .int .u64 0, .int .u64 0] 24))
    go_wp2_with fail
    go_loopw [14] (fun i wr => ∃ k : Nat, k ≤ s.size ∧ i = .int .i64 k ∧ val9 s k < 6277101735386680763835789423207666416102355444464034512896 ∧ Hid (AtC wr (w.heap.size + 1) (cost0 (val9 s k)) (cost1 (val9 s k)) (cost2 (val9 s k)) ∧ AtC wr w.heap.size 0 0 0 ∧ Below w.heap.size w wr)) (fun i _ => s.size - (intOf i).toNat)
    case atStart => exact ⟨0, by omega, rfl, by simp [val9], ⟨by simp only [val9]; rw [cost_zero.1, cost_zero.2.1, cost_zero.2.2]; exact A1.out, A0.out.below B1.out, keepb B1.out B0.out⟩⟩
    case round =>
      clear A0 B0 A1 B1
      obtain ⟨k, hk, rfl, hv, HE⟩ := hrel
      by_cases hlt : (k : Int) < (s.size : Int)
      · have hks : k < s.size := by omega
        have hbt := HB.out k hks
        have bd := HD.out k hks
        have HV : Hid (val9 s (k + 1) = val9 s k * 10 + (bAt9 s k - 48).toNat) := rfl
        have KT := fun w => times_any (val9 s k) 10 (bAt9 s k - 48).toNat w hv (by omega) (by omega)
        rw [← HV.out] at KT
        have ed : ((bAt9 s k - 48).toNat : Int) = bAt9 s k - 48 := by omega
        rw [ed] at KT
        have w8 : IntKind.u8.wrap (bAt9 s k - 48) = bAt9 s k - 48 := by rw [IntKind.wrap_u8]; omega
        have w9 : IntKind.u64.wrap (bAt9 s k - 48) = bAt9 s k - 48 := by rw [IntKind.wrap_u64]; omega
        have mk : IntKind.i64.wrap ((k : Int) + 1) = (k : Int) + 1 := by rw [IntKind.wrap_i64]; omega
        have HZ := hid9 hv
        have HK := hid9 hk
        generalize hc : bAt9 s k = c at *
        have Hc := hid9 hc
        clear HD HB hv hk ed hc
        rw [show ((10 : Nat) : Int) = 10 from rfl] at KT
        unfold costV at KT
        generalize hd : c - 48 = d at *
        have w7 : IntKind.u8.wrap (c - 48) = d := by rw [hd]; exact w8
        have Hd := hid9 hd
        clear hd w8
        obtain ⟨ov, hov⟩ : ∃ q, q = cost0 (val9 s (k + 1)) / 18446744073709551616 := ⟨_, rfl⟩
        obtain ⟨t0, ht0⟩ : ∃ q, q = cost0 (val9 s (k + 1)) % 18446744073709551616 := ⟨_, rfl⟩
        obtain ⟨t1, ht1⟩ : ∃ q, q = cost1 (val9 s (k + 1)) := ⟨_, rfl⟩
        obtain ⟨t2, ht2⟩ : ∃ q, q = cost2 (val9 s (k + 1)) := ⟨_, rfl⟩
        rw [← hov, ← ht0, ← ht1, ← ht2] at KT
        have HT := hid9 (And.intro hov (And.intro ht0 (And.intro ht1 ht2)))
        clear hov ht0 ht1 ht2
        generalize cost0 (val9 s k) = x0 at *
        generalize cost1 (val9 s k) = x1 at *
        generalize cost2 (val9 s k) = x2 at *
        have HC : Hid (∀ X, Below wr.heap.size wr X → AtC X (w.heap.size + 1) x0 x1 x2) := fun X hb => HE.out.1.below hb
        go_wp2_with fail
        refine gh_region (γ := Nat) (qpOk 13 13 (by decide) (fun N => by kernel_rfl) (by kernel_rfl) (by kernel_rfl) (by kernel_rfl) (by kernel_rfl)) (by kernel_rfl) (by kernel_rfl) [some 18, some 19, some 20, some 21, some 22, some 23, some 24, some 17, some 25, some 26, some 6, none, some 7] (fun g => [.agg #[.int .u64 x0, .int .u64 x1, .int .u64 x2], .string s, .int .i64 (k : Int), .int .u8 c, .int .u8 d, .int .u64 d, .tuple #[.agg #[.int .u64 t0, .int .u64 t1, .int .u64 t2], .int .u64 ov], .tuple #[.agg #[.int .u64 t0, .int .u64 t1, .int .u64 t2], .int .u64 ov], .agg #[.int .u64 t0, .int .u64 t1, .int .u64 t2], .int .u64 ov, .pointer (some ⟨g, 0, none⟩), undef, .int .u64 ov]) (by kernel_rfl) (by simp) (fun lp g V => RC9 wr t0 t1 t2 (lp.getD 10 false) (lp.getD 11 false) g V) 0 ⟨below_drewN (Below.refl _ _) 1, fun h => (by simp at h), fun h => (by simp at h)⟩ ?step ?fin
        case step =>
          intro q o lp g w' a' ho hsz hun hdep hR hS K Q' hK
          have hfl : ∀ j, j ≠ q → (lp.setIfInBounds q true).getD j false = lp.getD j false := fun j hj => by rw [Array.getD_eq_getD_getElem?, Array.getD_eq_getD_getElem?, Array.getElem?_setIfInBounds_ne (by omega)]
          have hq : q < 13 := (List.getElem?_eq_some_iff.mp ho).1
          obtain ⟨x0', x1', x2', -, -, -⟩ := HC.out w' hR.bel
          match q, ho, hun, hdep, hK, hfl, hq with
          | 0, ho, hun, hdep, hK, hfl, _ =>
            obtain rfl := Option.some.inj ho
            have o4 : a'.tmps[4]? = some (.pointer (some ⟨w.heap.size + 1, 0, none⟩)) := (hS.old9 4 (by simp)).trans rfl
            have hK' := hK g w' (fun _ _ _ _ _ _ => rfl) (by rw [hfl 10 (by decide), hfl 11 (by decide)]; exact hR) (.agg #[.int .u64 x0, .int .u64 x1, .int .u64 x2]) (by simp only [valO, Option.bind_some]; simp only [putAll, Act.put, List.setIfInBounds_toArray, List.set_cons_zero, List.set_cons_succ]; rfl)
            clear hS hdep hR
            refine gh_quiet9 (v := .agg #[.int .u64 x0, .int .u64 x1, .int .u64 x2]) ?_ ?_
            · (simp only [execOp, Act.eval, o4]; go_simp; first | done | (simp; done) | (simp [*]; done) | omega | (simp; omega) | (simp [*]; omega))
            · exact hK'
          | 1, ho, hun, hdep, hK, hfl, _ =>
            obtain rfl := Option.some.inj ho
            have o0 : a'.tmps[0]? = some (.string s) := (hS.old9 0 (by simp)).trans rfl
            have hK' := hK g w' (fun _ _ _ _ _ _ => rfl) (by rw [hfl 10 (by decide), hfl 11 (by decide)]; exact hR) (.string s) (by simp only [valO, Option.bind_some]; simp only [putAll, Act.put, List.setIfInBounds_toArray, List.set_cons_zero, List.set_cons_succ]; rfl)
            clear hS hdep hR
            refine gh_quiet9 (v := .string s) ?_ ?_
            · (simp only [execOp, Act.eval, o0]; go_simp; first | done | (simp; done) | (simp [*]; done) | omega | (simp; omega) | (simp [*]; omega))
            · exact hK'
          | 2, ho, hun, hdep, hK, hfl, _ =>
            obtain rfl := Option.some.inj ho
            have o5 : a'.tmps[5]? = some (.int .i64 (k : Int)) := (hS.old9 5 (by simp)).trans rfl
            have hK' := hK g w' (fun _ _ _ _ _ _ => rfl) (by rw [hfl 10 (by decide), hfl 11 (by decide)]; exact hR) (.int .i64 (k : Int)) (by simp only [valO, Option.bind_some]; simp only [putAll, Act.put, List.setIfInBounds_toArray, List.set_cons_zero, List.set_cons_succ]; rfl)
            clear hS hdep hR
            refine gh_quiet9 (v := .int .i64 (k : Int)) ?_ ?_
            · (simp only [execOp, Act.eval, o5]; go_simp; first | done | (simp; done) | (simp [*]; done) | omega | (simp; omega) | (simp [*]; omega))
            · exact hK'
          | 3, ho, hun, hdep, hK, hfl, _ =>
            obtain rfl := Option.some.inj ho
            have d1 : lp.getD 1 false = true := hdep { on := 1, ground := .data } (by simp) rfl
            have e19 : a'.tmps[19]? = some (.string s) := (hS.don 1 _ 19 rfl d1 rfl).trans (by simp only [putAll, Act.put, List.setIfInBounds_toArray, List.set_cons_zero, List.set_cons_succ]; rfl)
            have d2 : lp.getD 2 false = true := hdep { on := 2, ground := .data } (by simp) rfl
            have e20 : a'.tmps[20]? = some (.int .i64 (k : Int)) := (hS.don 2 _ 20 rfl d2 rfl).trans (by simp only [putAll, Act.put, List.setIfInBounds_toArray, List.set_cons_zero, List.set_cons_succ]; rfl)
            have hK' := hK g w' (fun _ _ _ _ _ _ => rfl) (by rw [hfl 10 (by decide), hfl 11 (by decide)]; exact hR) (.int .u8 c) (by simp only [valO, Option.bind_some]; simp only [putAll, Act.put, List.setIfInBounds_toArray, List.set_cons_zero, List.set_cons_succ]; rfl)
            clear hS hdep hR
            refine gh_quiet9 (v := .int .u8 c) ?_ ?_
            · (simp only [execOp, Act.eval, e19, e20]; go_simp; first | done | (simp; done) | (simp [*]; done) | omega | (simp; omega) | (simp [*]; omega))
            · exact hK'
          | 4, ho, hun, hdep, hK, hfl, _ =>
            obtain rfl := Option.some.inj ho
            have d3 : lp.getD 3 false = true := hdep { on := 3, ground := .data } (by simp) rfl
            have e21 : a'.tmps[21]? = some (.int .u8 c) := (hS.don 3 _ 21 rfl d3 rfl).trans (by simp only [putAll, Act.put, List.setIfInBounds_toArray, List.set_cons_zero, List.set_cons_succ]; rfl)
            have hK' := hK g w' (fun _ _ _ _ _ _ => rfl) (by rw [hfl 10 (by decide), hfl 11 (by decide)]; exact hR) (.int .u8 d) (by simp only [valO, Option.bind_some]; simp only [putAll, Act.put, List.setIfInBounds_toArray, List.set_cons_zero, List.set_cons_succ]; rfl)
            clear hS hdep hR
            refine gh_quiet9 (v := .int .u8 d) ?_ ?_
            · (simp only [execOp, Act.eval, e21]; go_simp; first | done | (simp; done) | (simp [*]; done) | omega | (simp; omega) | (simp [*]; omega))
            · exact hK'
          | 5, ho, hun, hdep, hK, hfl, _ =>
            obtain rfl := Option.some.inj ho
            have d4 : lp.getD 4 false = true := hdep { on := 4, ground := .data } (by simp) rfl
            have e22 : a'.tmps[22]? = some (.int .u8 d) := (hS.don 4 _ 22 rfl d4 rfl).trans (by simp only [putAll, Act.put, List.setIfInBounds_toArray, List.set_cons_zero, List.set_cons_succ]; rfl)
            have hK' := hK g w' (fun _ _ _ _ _ _ => rfl) (by rw [hfl 10 (by decide), hfl 11 (by decide)]; exact hR) (.int .u64 d) (by simp only [valO, Option.bind_some]; simp only [putAll, Act.put, List.setIfInBounds_toArray, List.set_cons_zero, List.set_cons_succ]; rfl)
            clear hS hdep hR
            refine gh_quiet9 (v := .int .u64 d) ?_ ?_
            · (simp only [execOp, Act.eval, e22]; go_simp; first | done | (simp; done) | (simp [*]; done) | omega | (simp; omega) | (simp [*]; omega))
            · exact hK'
          | 6, ho, hun, hdep, hK, hfl, _ =>
            obtain rfl := Option.some.inj ho
            have d0 : lp.getD 0 false = true := hdep { on := 0, ground := .data } (by simp) rfl
            have e18 : a'.tmps[18]? = some (.agg #[.int .u64 x0, .int .u64 x1, .int .u64 x2]) := (hS.don 0 _ 18 rfl d0 rfl).trans (by simp only [putAll, Act.put, List.setIfInBounds_toArray, List.set_cons_zero, List.set_cons_succ]; rfl)
            have d5 : lp.getD 5 false = true := hdep { on := 5, ground := .data } (by simp) rfl
            have e23 : a'.tmps[23]? = some (.int .u64 d) := (hS.don 5 _ 23 rfl d5 rfl).trans (by simp only [putAll, Act.put, List.setIfInBounds_toArray, List.set_cons_zero, List.set_cons_succ]; rfl)
            have KE := KT w'
            clear hdep
            unfold Oper.wp
            simp only [execOp, Act.eval]
            simp [go_sem, e18, e23, Oper.upon]
            refine KE.mono ?_
            rintro e W2 ⟨rfl, hb2⟩
            exact hK g W2 (fun _ _ _ _ _ _ => rfl) (by rw [hfl 10 (by decide), hfl 11 (by decide)]; exact hR.below hb2) _ (by simp only [valO, Option.bind_some]; simp only [putAll, Act.put, List.setIfInBounds_toArray, List.set_cons_zero, List.set_cons_succ]; rfl)
          | 7, ho, hun, hdep, hK, hfl, _ =>
            obtain rfl := Option.some.inj ho
            have d6 : lp.getD 6 false = true := hdep { on := 6, ground := .data } (by simp) rfl
            have e24 : a'.tmps[24]? = some (.tuple #[.agg #[.int .u64 t0, .int .u64 t1, .int .u64 t2], .int .u64 ov]) := (hS.don 6 _ 24 rfl d6 rfl).trans (by simp only [putAll, Act.put, List.setIfInBounds_toArray, List.set_cons_zero, List.set_cons_succ]; rfl)
            have hK' := hK g w' (fun _ _ _ _ _ _ => rfl) (by rw [hfl 10 (by decide), hfl 11 (by decide)]; exact hR) (.tuple #[.agg #[.int .u64 t0, .int .u64 t1, .int .u64 t2], .int .u64 ov]) (by simp only [valO, Option.bind_some]; simp only [putAll, Act.put, List.setIfInBounds_toArray, List.set_cons_zero, List.set_cons_succ]; rfl)
            clear hS hdep hR
            refine gh_quiet9 (v := .tuple #[.agg #[.int .u64 t0, .int .u64 t1, .int .u64 t2], .int .u64 ov]) ?_ ?_
            · (simp only [execOp, Act.eval, e24]; go_simp; first | done | (simp; done) | (simp [*]; done) | omega | (simp; omega) | (simp [*]; omega))
            · exact hK'
          | 8, ho, hun, hdep, hK, hfl, _ =>
            obtain rfl := Option.some.inj ho
            have d7 : lp.getD 7 false = true := hdep { on := 7, ground := .data } (by simp) rfl
            have e17 : a'.tmps[17]? = some (.tuple #[.agg #[.int .u64 t0, .int .u64 t1, .int .u64 t2], .int .u64 ov]) := (hS.don 7 _ 17 rfl d7 rfl).trans (by simp only [putAll, Act.put, List.setIfInBounds_toArray, List.set_cons_zero, List.set_cons_succ]; rfl)
            have hK' := hK g w' (fun _ _ _ _ _ _ => rfl) (by rw [hfl 10 (by decide), hfl 11 (by decide)]; exact hR) (.agg #[.int .u64 t0, .int .u64 t1, .int .u64 t2]) (by simp only [valO, Option.bind_some]; simp only [putAll, Act.put, List.setIfInBounds_toArray, List.set_cons_zero, List.set_cons_succ]; rfl)
            clear hS hdep hR
            refine gh_quiet9 (v := .agg #[.int .u64 t0, .int .u64 t1, .int .u64 t2]) ?_ ?_
            · (simp only [execOp, Act.eval, e17]; go_simp; first | done | (simp; done) | (simp [*]; done) | omega | (simp; omega) | (simp [*]; omega))
            · exact hK'
          | 9, ho, hun, hdep, hK, hfl, _ =>
            obtain rfl := Option.some.inj ho
            have d7 : lp.getD 7 false = true := hdep { on := 7, ground := .data } (by simp) rfl
            have e17 : a'.tmps[17]? = some (.tuple #[.agg #[.int .u64 t0, .int .u64 t1, .int .u64 t2], .int .u64 ov]) := (hS.don 7 _ 17 rfl d7 rfl).trans (by simp only [putAll, Act.put, List.setIfInBounds_toArray, List.set_cons_zero, List.set_cons_succ]; rfl)
            have hK' := hK g w' (fun _ _ _ _ _ _ => rfl) (by rw [hfl 10 (by decide), hfl 11 (by decide)]; exact hR) (.int .u64 ov) (by simp only [valO, Option.bind_some]; simp only [putAll, Act.put, List.setIfInBounds_toArray, List.set_cons_zero, List.set_cons_succ]; rfl)
            clear hS hdep hR
            refine gh_quiet9 (v := .int .u64 ov) ?_ ?_
            · (simp only [execOp, Act.eval, e17]; go_simp; first | done | (simp; done) | (simp [*]; done) | omega | (simp; omega) | (simp [*]; omega))
            · exact hK'
          | 10, ho, hun, hdep, hK, hfl, _ =>
            obtain rfl := Option.some.inj ho
            rw [hun] at hR
            have hK' := hK w'.heap.size (w'.alloc (.cells #[.int .u64 0, .int .u64 0, .int .u64 0] 24)) (fun k ok s hk hl hd => gh_same9 (d := 6) (s := s) (by simp only [putAll, Act.put, List.setIfInBounds_toArray, List.set_cons_zero, List.set_cons_succ]; rfl) (by rintro rfl; have := dstG_of (by kernel_rfl) k 10 ok _ 6 hk rfl hd rfl; subst this; rw [hun] at hl; cases hl)) (by rw [hfl 11 (by decide), getD_set_same (by rw [hsz]; decide)]; exact hR.al) (.pointer (some ⟨w'.heap.size, 0, none⟩)) (by simp only [valO, Option.bind_some]; simp only [putAll, Act.put, List.setIfInBounds_toArray, List.set_cons_zero, List.set_cons_succ]; rfl)
            clear hS hdep hR
            unfold Oper.wp
            simp only [execOp]
            go_simp
            exact hK'
          | 11, ho, hun, hdep, hK, hfl, _ =>
            obtain rfl := Option.some.inj ho
            have d8 : lp.getD 8 false = true := hdep { on := 8, ground := .data } (by simp) rfl
            have e25 : a'.tmps[25]? = some (.agg #[.int .u64 t0, .int .u64 t1, .int .u64 t2]) := (hS.don 8 _ 25 rfl d8 rfl).trans (by simp only [putAll, Act.put, List.setIfInBounds_toArray, List.set_cons_zero, List.set_cons_succ]; rfl)
            have d10 : lp.getD 10 false = true := hdep { on := 10, ground := .data } (by simp) rfl
            have e6 : a'.tmps[6]? = some (.pointer (some ⟨g, 0, none⟩)) := (hS.don 10 _ 6 rfl d10 rfl).trans (by simp only [putAll, Act.put, List.setIfInBounds_toArray, List.set_cons_zero, List.set_cons_succ]; rfl)
            rw [hun] at hR
            have hz := (hR.a d10).2
            simp only [Bool.false_eq_true, if_false] at hz
            obtain ⟨z0, z1, z2, k0, k1, k2⟩ := hz
            have hK' := hK g _ (fun _ _ _ _ _ _ => rfl) (by rw [hfl 10 (by decide), getD_set_same (by rw [hsz]; decide)]; exact hR.st d10) undef rfl
            clear hS hdep hR
            unfold Oper.wp
            simp [execOp, Act.eval, e25, e6, go_sem, z0, z1, z2, k0, k1, k2, Oper.upon]
            exact hK'
          | 12, ho, hun, hdep, hK, hfl, _ =>
            obtain rfl := Option.some.inj ho
            have d9 : lp.getD 9 false = true := hdep { on := 9, ground := .data } (by simp) rfl
            have e26 : a'.tmps[26]? = some (.int .u64 ov) := (hS.don 9 _ 26 rfl d9 rfl).trans (by simp only [putAll, Act.put, List.setIfInBounds_toArray, List.set_cons_zero, List.set_cons_succ]; rfl)
            have hK' := hK g w' (fun _ _ _ _ _ _ => rfl) (by rw [hfl 10 (by decide), hfl 11 (by decide)]; exact hR) (.int .u64 ov) (by simp only [valO, Option.bind_some]; simp only [putAll, Act.put, List.setIfInBounds_toArray, List.set_cons_zero, List.set_cons_succ]; rfl)
            clear hS hdep hR
            refine gh_quiet9 (v := .int .u64 ov) ?_ ?_
            · (simp only [execOp, Act.eval, e26]; go_simp; first | done | (simp; done) | (simp [*]; done) | omega | (simp; omega) | (simp [*]; omega))
            · exact hK'
          | n + 13, ho, hun, hdep, hK, hfl, hq => exact absurd hq (by omega)
        case fin =>
          intro N1 V2 hR
          have hR : RC9 wr t0 t1 t2 true true N1 V2 := by simpa using hR
          have hz := (hR.a rfl).2
          simp only [if_true] at hz
          have HLa := hid9 hz
          have HV2 := hid9 hR.bel
          have HN1 := hid9 (hR.a rfl).1
          simp only [putAll, Act.put, List.setIfInBounds_toArray, List.set_cons_zero, List.set_cons_succ]
          clear hR hz
          refine wl_nil9 (P := Try.prog) (ops := #[]) ?_
          clear HC KT
          have HB2 := hid9 (keepb HV2.out HE.out.2.2)
          have HX := hid9 (HE.out.1.below HV2.out)
          have HR2 := hid9 (HE.out.2.1.below HV2.out)
          have HNe : Hid (w.heap.size + 1 < wr.heap.size) := HE.out.1.lt
          clear HE HV2
          by_cases ho : ov = 0
          · subst ho
            obtain ⟨l0, l1, l2, -, -, -⟩ := HLa.out
            obtain ⟨u0, u1, u2, v0, v1, v2⟩ := HX.out
            have hnn : ¬ w.heap.size + 1 = N1 := by have := HNe.out; have := HN1.out; omega
            have HX2 := hid9 (HX.out.set t0 t1 t2)
            have HR3 := hid9 (((HR2.out.oth0 (C := w.heap.size + 1) (by omega) t0).oth1 (C := w.heap.size + 1) (by omega) t1).oth2 (C := w.heap.size + 1) (by omega) t2)
            have HB3 := hid9 (bset3c HB2.out (show w.heap.size ≤ w.heap.size + 1 by omega) (.int .u64 t0) (.int .u64 t1) (.int .u64 t2))
            clear HB2 HX HR2 HLa hnn
            go_wp2
            go_roundw
            case rel =>
              have hlt2 : val9 s (k + 1) < 6277101735386680763835789423207666416102355444464034512896 := by
                apply Classical.byContradiction
                intro q
                exact top_out _ q HT.out.1.symm
              refine ⟨k + 1, by omega, by go_num, hlt2, ⟨?_, HR3.out, HB3.out⟩⟩
              rw [← HT.out.2.2.1, ← HT.out.2.2.2, ← (top_in _ hlt2).1, ← HT.out.2.1]
              exact HX2.out
            case measure => simp [intOf]; omega
          · have hob : (ov == 0) = false := by simpa using ho
            have HF : Hid (par9N s = 0 ∧ par9E s = 6) := by
              have q : ¬ val9 s (k + 1) < 6277101735386680763835789423207666416102355444464034512896 := fun q => ho (HT.out.1.trans (top_in _ q).2)
              have q2 : ¬ val9 s s.size < 6277101735386680763835789423207666416102355444464034512896 := by
                have := val9_le s (k + 1) s.size (by omega)
                omega
              show _ ∧ _
              rw [HP.out.1, HP.out.2]
              exact fit_out q2
            have HR3 := hid9 (HR2.out.set 0 0 0)
            have HB3 := hid9 (bset3c HB2.out (Nat.le_refl _) (.int .u64 0) (.int .u64 0) (.int .u64 0))
            obtain ⟨u0, u1, u2, v0, v1, v2⟩ := HR2.out
            clear HB2 HX HR2 HLa
            go_wp2
            obtain ⟨f0, f1, f2, -, -, -⟩ := HR3.out
            exact bodyPost_ret (v := .tuple #[.agg #[.int .u64 0, .int .u64 0, .int .u64 0], .int .i64 6]) (by simp [results, Try.results6, go_sem, f0, f1, f2]) rfl ⟨by rw [HF.out.1, HF.out.2, costV_zero], HB3.out⟩
      · have hk8 : k = s.size := by omega
        have hd : decide ((k : Int) < (s.size : Int)) = false := by simpa using hlt
        have HF : Hid (par9N s = val9 s k ∧ par9E s = 0) := by
          show _ ∧ _
          rw [HP.out.1, HP.out.2, ← hk8]
          exact fit_in hv
        generalize hx0 : cost0 (val9 s k) = x0 at *
        generalize hx1 : cost1 (val9 s k) = x1 at *
        generalize hx2 : cost2 (val9 s k) = x2 at *
        have HG : Hid (costV (val9 s k) = .agg #[.int .u64 x0, .int .u64 x1, .int .u64 x2]) := by show _ = _; unfold costV; rw [hx0, hx1, hx2]
        clear hx0 hx1 hx2 hk8 hv
        obtain ⟨⟨y0, y1, y2, -, -, -⟩, hR, -⟩ := HE.out
        have HR3 := hid9 (hR.set x0 x1 x2)
        have HB3 := hid9 (bset3c HE.out.2.2 (Nat.le_refl _) (.int .u64 x0) (.int .u64 x1) (.int .u64 x2))
        obtain ⟨u0, u1, u2, v0, v1, v2⟩ := hR
        clear HE HB HD HN HP
        go_wp2
        obtain ⟨f0, f1, f2, -, -, -⟩ := HR3.out
        exact bodyPost_ret (v := .tuple #[.agg #[.int .u64 x0, .int .u64 x1, .int .u64 x2], .int .i64 0]) (by simp [results, Try.results6, go_sem, f0, f1, f2]) rfl ⟨by rw [HF.out.1, HF.out.2, HG.out], HB3.out⟩
end Go.Proofs.Ytnaamkkjledllab
/-
  Plain facts of the texts of numbers: their digits, lengths and order.
-/
namespace Go.Proofs.Ytnaamkkjledllab
open Go.RowKit
set_option linter.unusedSimpArgs false
set_option linter.unusedVariables false

/-- The number that digits write. -/
def dv : List UInt8 → Nat
  | [] => 0
  | a :: l => (a.toNat - 48) * 10 ^ l.length + dv l
def isD (a : UInt8) : Prop := 48 ≤ a.toNat ∧ a.toNat ≤ 57
theorem dv_app (l : List UInt8) (d : UInt8) : dv (l ++ [d]) = dv l * 10 + (d.toNat - 48) := by
  induction l with
  | nil => simp [dv]
  | cons a l ih =>
    simp only [List.cons_append, dv, ih, List.length_append, List.length_singleton, Nat.pow_succ]
    rw [Nat.add_mul]
    have : (a.toNat - 48) * (10 ^ l.length * 10) = (a.toNat - 48) * 10 ^ l.length * 10 := by rw [Nat.mul_assoc]
    omega
theorem dv_lt (l : List UInt8) (h : ∀ a ∈ l, isD a) : dv l < 10 ^ l.length := by
  induction l with
  | nil => simp [dv]
  | cons a l ih =>
    have i := ih (fun b hb => h b (List.mem_cons_of_mem _ hb))
    have j := h a (List.mem_cons_self ..)
    unfold isD at j
    have k : (a.toNat - 48) * 10 ^ l.length ≤ 9 * 10 ^ l.length := Nat.mul_le_mul_right _ (by omega)
    simp only [dv, List.length_cons, Nat.pow_succ]
    omega
theorem less_dv : ∀ (l m : List UInt8), l.length = m.length → (∀ a ∈ l, isD a) → (∀ a ∈ m, isD a) → Op.bytesLess l m = decide (dv l < dv m)
  | [], [], _, _, _ => by simp [Op.bytesLess, dv]
  | a :: l, b :: m, h, hl, hm => by
    have e : l.length = m.length := by simpa using h
    have i := less_dv l m e (fun x hx => hl x (List.mem_cons_of_mem _ hx)) (fun x hx => hm x (List.mem_cons_of_mem _ hx))
    have ja := hl a (List.mem_cons_self ..)
    have jb := hm b (List.mem_cons_self ..)
    have ul := dv_lt l (fun x hx => hl x (List.mem_cons_of_mem _ hx))
    have um := dv_lt m (fun x hx => hm x (List.mem_cons_of_mem _ hx))
    unfold isD at ja jb
    rw [e] at ul
    simp only [Op.bytesLess, dv, e]
    generalize 10 ^ m.length = P at *
    rw [Bool.eq_iff_iff]
    by_cases c : a = b
    · subst c
      simp only [i]
      simp
    · have cn : ¬ a.toNat = b.toNat := fun q => c (UInt8.toNat_inj.mp q)
      by_cases g : a.toNat < b.toNat
      · have k : (a.toNat - 48 + 1) * P ≤ (b.toNat - 48) * P := Nat.mul_le_mul_right _ (by omega)
        rw [Nat.add_mul] at k
        have gl : a < b := UInt8.lt_iff_toNat_lt.mpr g
        simp only [decide_eq_true_eq]
        constructor
        · intro _; omega
        · intro _; simp [gl]
      · have k : (b.toNat - 48 + 1) * P ≤ (a.toNat - 48) * P := Nat.mul_le_mul_right _ (by omega)
        rw [Nat.add_mul] at k
        have gl : ¬ a < b := fun q => g (UInt8.lt_iff_toNat_lt.mp q)
        simp only [decide_eq_true_eq]
        constructor
        · intro q; simp [gl, c] at q
        · intro q; omega
/-- What the digits of a number are. -/
structure Dg (m : Nat) (l : List UInt8) : Prop where
  all : ∀ a ∈ l, isD a
  val : dv l = m
  low : 10 ^ l.length ≤ 10 * m
theorem digD (d : Nat) (h : d < 10) : isD (UInt8.ofNat (48 + d)) ∧ (UInt8.ofNat (48 + d)).toNat - 48 = d := by
  have e : (UInt8.ofNat (48 + d)).toNat = 48 + d := by rw [UInt8.toNat_ofNat']; omega
  unfold isD; omega
theorem txF_app : ∀ f m (t : List UInt8), txF f m t = txF f m [] ++ t := by
  intro f
  induction f with
  | zero => intro m t; rfl
  | succ f ih =>
    intro m t
    by_cases h : m = 0
    · simp only [txF, if_pos h]; rfl
    · simp only [txF, if_neg h]
      rw [ih (m / 10) (_ :: t), ih (m / 10) [_]]
      simp
theorem txF_dg : ∀ f m, m < 10 ^ f → ¬ m = 0 → Dg m (txF f m []) ∧ (txF f m []).length ≤ f ∧ 1 ≤ (txF f m []).length ∧ ∃ a l, txF f m [] = a :: l ∧ 49 ≤ a.toNat := by
  intro f
  induction f with
  | zero => intro m h h0; simp at h; omega
  | succ f ih =>
    intro m h h0
    simp only [txF, if_neg h0]
    rw [txF_app]
    obtain ⟨d1, d2⟩ := digD (m % 10) (by omega)
    by_cases h1 : m / 10 = 0
    · rw [h1, txF_zero]
      refine ⟨⟨fun a ha => ?_, ?_, ?_⟩, by simp, by simp, _, _, rfl, ?_⟩
      · simp only [List.nil_append, List.mem_singleton] at ha; subst ha; exact d1
      · simp only [List.nil_append, dv, List.length_nil, Nat.pow_zero]; omega
      · simp; omega
      · have : m % 10 = m := by omega
        rw [this] at d1 d2 ⊢
        unfold isD at d1; omega
    · obtain ⟨k1, k2, k3, a, l, k4, k5⟩ := ih (m / 10) (by rw [Nat.pow_succ] at h; omega) h1
      have hl := k1.low
      refine ⟨⟨fun b hb => ?_, ?_, ?_⟩, by simp; omega, by simp, a, l ++ [UInt8.ofNat (48 + m % 10)], by rw [k4]; rfl, k5⟩
      · simp only [List.mem_append, List.mem_singleton] at hb
        rcases hb with hb | hb
        · exact k1.all b hb
        · subst hb; exact d1
      · rw [dv_app, k1.val]; omega
      · simp only [List.length_append, List.length_singleton, Nat.pow_succ]
        omega
/-- The text of a number. -/
structure Tx (N : Nat) (l : List UInt8) : Prop where
  all : ∀ a ∈ l, isD a
  val : dv l = N
  low : N = 0 ∨ 10 ^ l.length ≤ 10 * N
  up : l.length ≤ 58
  lo : 1 ≤ l.length
  head : ∀ a m, l = a :: m → a.toNat = 48 → l.length = 1
theorem tx_of (N : Nat) (hN : N < 6277101735386680763835789423207666416102355444464034512896) : Tx N (txN N) := by
  unfold txN
  by_cases h : N = 0
  · rw [if_pos h]
    subst h
    exact ⟨fun a ha => (by simp at ha; subst ha; unfold isD; decide), rfl, .inl rfl, by decide, by decide, fun a m e _ => rfl⟩
  · rw [if_neg h]
    obtain ⟨k1, k2, k3, a, l, k4, k5⟩ := txF_dg 58 N (Nat.lt_trans hN (by decide)) h
    exact ⟨k1.all, k1.val, .inr k1.low, k2, k3, fun b m e q => by rw [k4] at e; injection e with e1 e2; subst e1; omega⟩
theorem tx_len {N M : Nat} {l m : List UInt8} (h : Tx N l) (k : Tx M m) (hl : l.length < m.length) : N < M := by
  have a := dv_lt l h.all
  rw [h.val] at a
  have b : 10 ^ (l.length + 1) ≤ 10 ^ m.length := Nat.pow_le_pow_right (by decide) hl
  rw [Nat.pow_succ] at b
  have z := h.lo
  have p : 10 ^ 1 ≤ 10 ^ l.length := Nat.pow_le_pow_right (by decide) z
  rcases k.low with c | c
  · subst c
    have mv := k.val
    have := k.lo
    match m, k, hl, mv with
    | x :: y :: m, k, hl, mv =>
      have q := k.head x (y :: m) rfl
      have j := k.all x (List.mem_cons_self ..)
      unfold isD at j
      have : ¬ x.toNat = 48 := fun e => by have := q e; simp at this
      have : 1 ≤ (x.toNat - 48) * 10 ^ (y :: m).length := Nat.mul_pos (by omega) (Nat.pow_pos (by decide))
      simp only [dv] at mv this
      omega
    | [x], k, hl, mv =>
      have : [x].length = 1 := rfl
      omega
    | [], k, hl, mv => simp at hl
  · omega
theorem tx_same {N M : Nat} {l m : List UInt8} (h : Tx N l) (k : Tx M m) (hl : l.length = m.length) : Op.bytesLess l m = decide (N < M) := by
  rw [less_dv l m hl h.all k.all, h.val, k.val]
theorem bAt9_list (l : List UInt8) (k : Nat) (h : k < l.length) : bAt9 ⟨l.toArray⟩ k = (l[k].toNat : Int) := by
  unfold bAt9
  rw [dif_pos (show k < (⟨l.toArray⟩ : ByteArray).size from h)]
  rfl
theorem val9_list (l : List UInt8) (hd : ∀ a ∈ l, isD a) : ∀ k, k ≤ l.length → val9 ⟨l.toArray⟩ k = dv (l.take k) := by
  intro k
  induction k with
  | zero => intro _; rfl
  | succ k ih =>
    intro h
    rw [List.take_succ_eq_append_getElem (by omega), dv_app, ← ih (by omega)]
    simp only [val9]
    rw [bAt9_list l k (by omega)]
    have := hd l[k] (List.getElem_mem _)
    unfold isD at this
    omega
theorem all9_list (l : List UInt8) (hd : ∀ a ∈ l, isD a) : ∀ k, k ≤ l.length → all9 ⟨l.toArray⟩ k = true := by
  intro k
  induction k with
  | zero => intro _; rfl
  | succ k ih =>
    intro h
    simp only [all9]
    rw [ih (by omega), bAt9_list l k (by omega)]
    have := hd l[k] (List.getElem_mem _)
    unfold isD at this
    show (true && decide _) = true
    rw [decide_eq_true (by omega)]; rfl
theorem par_tx {N : Nat} {l : List UInt8} (h : Tx N l) (hN : N < 6277101735386680763835789423207666416102355444464034512896) : par9N ⟨l.toArray⟩ = N ∧ par9E ⟨l.toArray⟩ = 0 := by
  have hs : (⟨l.toArray⟩ : ByteArray).size = l.length := rfl
  have hn : num9 ⟨l.toArray⟩ = true := by
    unfold num9
    rw [hs, all9_list l h.all _ (Nat.le_refl _), Bool.and_true, decide_eq_true_eq]
    have hlo := h.lo
    refine ⟨by omega, fun q => ?_⟩
    cases hl : l with
    | nil => rw [hl] at hlo; simp at hlo
    | cons a m =>
      rw [hl] at q
      rw [bAt9_list (a :: m) 0 (by simp)] at q
      rw [← hl]
      exact h.head a m hl (by simp only [List.getElem_cons_zero] at q; omega)
  unfold par9N par9E
  rw [if_pos hn, if_pos hn, hs, val9_list l h.all _ (Nat.le_refl _), List.take_length, h.val]
  exact fit_in hN
end Go.Proofs.Ytnaamkkjledllab
