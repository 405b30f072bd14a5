/-
  Part 2 of the proof: 3 texts, one behind the other.
-/
import Derived.Test.YthbdmdafldombabDoorPart1
import Derived.WalkMore
import Derived.ScopeJumps
import Derived.Deep.AppendLies
namespace Go.Proofs.YthbdmdafldombabDoor
open Go.RowKit
set_option linter.unusedSimpArgs false
set_option linter.unusedVariables false

theorem len8_bd : ∀ b : Fin 256, b.val ≠ 0 → 1 ≤ Lib.bitLen b.val ∧ Lib.bitLen b.val ≤ 8 ∧ 2 ^ (Lib.bitLen b.val - 1) ≤ b.val ∧ b.val < 2 ^ Lib.bitLen b.val := by decide +kernel
def LenQ (n L : Nat) : Prop := 1 ≤ L ∧ L ≤ 32 ∧ 2 ^ (L - 1) ≤ n ∧ n < 2 ^ L
theorem lenQ_at (n s b : Nat) (hb : b = n / 2 ^ s) (h0 : b ≠ 0) (h1 : b < 256) (hs : s + 8 ≤ 32) : LenQ n (s + Lib.bitLen b) := by
  obtain ⟨e1, e2, e3, e4⟩ := len8_bd ⟨b, h1⟩ h0
  simp only at e1 e2 e3 e4
  refine ⟨by omega, by omega, ?_, ?_⟩
  · rw [show s + Lib.bitLen b - 1 = s + (Lib.bitLen b - 1) by omega, Nat.pow_add, Nat.mul_comm]
    have : b * 2 ^ s ≤ n := by rw [hb]; exact Nat.div_mul_le_self n (2 ^ s)
    exact Nat.le_trans (Nat.mul_le_mul_right _ e3) this
  · rw [Nat.pow_add, Nat.mul_comm]
    have e5 : n / 2 ^ s < 2 ^ Lib.bitLen b := by rw [← hb]; exact e4
    exact (Nat.div_lt_iff_lt_mul (Nat.two_pow_pos s)).1 e5
theorem len8_at (b : Nat) (h : b < 256) : Lib.len8 (b : Int) = ((Lib.bitLen b : Nat) : Int) := Lib.len8_eq ⟨b, h⟩
set_option maxRecDepth 100000 in
set_option maxHeartbeats 8000000 in
theorem len32_any (n : Nat) (h0 : n ≠ 0) (h1 : n < 4294967296) (w : World) :
    Calls Tryd.prog 46 #[.int .u32 (n : Int)] w fun e w' => (∃ L : Nat, e = .returned (.int .i64 (L : Int)) ∧ LenQ n L) ∧ w' = w := by
  have main : ∀ (s b : Nat), b = n / 2 ^ s → b ≠ 0 → b < 256 → s + 8 ≤ 32 → ∃ q : Nat, Lib.len8 (b : Int) = (q : Int) ∧ q ≤ 8 ∧ LenQ n (s + q) := fun s b hb hb0 hb1 hs =>
    ⟨Lib.bitLen b, len8_at b hb1, (len8_bd ⟨b, hb1⟩ hb0).2.1, lenQ_at n s b hb hb0 hb1 hs⟩
  obtain ⟨N, hN⟩ : ∃ N : Int, N = (n : Int) := ⟨_, rfl⟩
  rw [← hN]
  by_cases c1 : 65536 ≤ n
  · have d1 : 65536 ≤ N := by omega
    by_cases c2 : 256 ≤ n / 65536
    · obtain ⟨q, hq, hq8, hL⟩ := main 24 (n / 16777216) rfl (by omega) (by omega) (by omega)
      have d2 : 256 ≤ N / 65536 := by omega
      obtain ⟨B, hB⟩ : ∃ B : Int, B = ((n / 16777216 : Nat) : Int) := ⟨_, rfl⟩
      rw [← hB] at hq
      have d3 : N / 65536 / 256 = B := by omega
      have d4 : 0 ≤ B := by omega
      have d5 : B ≤ 255 := by omega
      have hq0 : ((q : Nat) : Int) ≤ 8 := by omega
      have HL := hid13 hL
      clear main hB hL c1 c2 h0 h1 hN
      go_enter Tryd.func46, Tryd.ntmps46
      go_wp2
      go_ret
      exact ⟨⟨24 + q, rfl, HL.out⟩, rfl⟩
    · obtain ⟨q, hq, hq8, hL⟩ := main 16 (n / 65536) rfl (by omega) (by omega) (by omega)
      have d2 : ¬ 256 ≤ N / 65536 := by omega
      obtain ⟨B, hB⟩ : ∃ B : Int, B = ((n / 65536 : Nat) : Int) := ⟨_, rfl⟩
      rw [← hB] at hq
      have d3 : N / 65536 = B := by omega
      have d4 : 0 ≤ B := by omega
      have d5 : B ≤ 255 := by omega
      rw [d3] at d2
      have hq0 : ((q : Nat) : Int) ≤ 8 := by omega
      have HL := hid13 hL
      clear main hB hL c1 c2 h0 h1 hN
      go_enter Tryd.func46, Tryd.ntmps46
      go_wp2
      go_ret
      exact ⟨⟨16 + q, rfl, HL.out⟩, rfl⟩
  · have d1 : ¬ 65536 ≤ N := by omega
    by_cases c2 : 256 ≤ n
    · obtain ⟨q, hq, hq8, hL⟩ := main 8 (n / 256) rfl (by omega) (by omega) (by omega)
      have d2 : 256 ≤ N := by omega
      obtain ⟨B, hB⟩ : ∃ B : Int, B = ((n / 256 : Nat) : Int) := ⟨_, rfl⟩
      rw [← hB] at hq
      have d3 : N / 256 = B := by omega
      have d4 : 0 ≤ B := by omega
      have d5 : B ≤ 255 := by omega
      have hq0 : ((q : Nat) : Int) ≤ 8 := by omega
      have HL := hid13 hL
      clear main hB hL c1 c2 h0 h1 hN
      go_enter Tryd.func46, Tryd.ntmps46
      go_wp2
      go_ret
      exact ⟨⟨8 + q, rfl, HL.out⟩, rfl⟩
    · obtain ⟨q, hq, hq8, hL⟩ := main 0 n (by simp) (by omega) (by omega) (by omega)
      have d2 : ¬ 256 ≤ N := by omega
      rw [← hN] at hq
      have d4 : 0 ≤ N := by omega
      have d5 : N ≤ 255 := by omega
      have hq0 : ((q : Nat) : Int) ≤ 8 := by omega
      have HL := hid13 hL
      clear main hL c1 c2 h0 h1 hN
      go_enter Tryd.func46, Tryd.ntmps46
      go_wp2
      go_ret
      refine ⟨⟨0 + q, ?_, HL.out⟩, rfl⟩
      rw [Nat.zero_add]; rfl
def FstP (x : BitVec 32) (p : Nat) : Prop := p < 32 ∧ bt x p = true ∧ ∀ j, j < p → bt x j = false
theorem fst_len (x : BitVec 32) (L : Nat) (h : LenQ x.toNat L) : FstP x (32 - L) := by
  obtain ⟨h1, h2, h3, h4⟩ := h
  have key : ∀ j, j < 32 → bt x j = decide (x.toNat / 2 ^ (31 - j) % 2 = 1) := fun j _ => by
    unfold bt BitVec.getLsbD; rw [Nat.testBit_eq_decide_div_mod_eq]
  refine ⟨by omega, ?_, fun j hj => ?_⟩
  · rw [key _ (by omega), show 31 - (32 - L) = L - 1 by omega, decide_eq_true_eq]
    have a1 : x.toNat / 2 ^ (L - 1) < 2 := by
      rw [Nat.div_lt_iff_lt_mul (Nat.two_pow_pos _), Nat.mul_comm, ← Nat.pow_succ, show (L - 1).succ = L by omega]; exact h4
    have a2 : 1 ≤ x.toNat / 2 ^ (L - 1) := (Nat.le_div_iff_mul_le (Nat.two_pow_pos _)).2 (by omega)
    omega
  · rw [key _ (by omega), decide_eq_false_iff_not]
    have : x.toNat / 2 ^ (31 - j) = 0 := Nat.div_eq_of_lt (Nat.lt_of_lt_of_le h4 (Nat.pow_le_pow_right (by decide) (by omega)))
    omega
set_option maxRecDepth 100000 in
theorem lead_any (x : BitVec 32) (h0 : x ≠ 0#32) (w : World) :
    Calls Tryd.prog 43 #[.int .u32 (uI x)] w fun e w' => (∃ p : Nat, e = .returned (.int .i64 (p : Int)) ∧ FstP x p) ∧ w' = w := by
  have hne : x.toNat ≠ 0 := fun e => h0 (BitVec.eq_of_toNat_eq (by rw [e]; rfl))
  have K := len32_any x.toNat hne x.isLt w
  rw [← uI_eq] at K
  go_enter Tryd.func43, Tryd.ntmps43
  go_wp2_with fail
  refine K.mono ?_
  rintro e w1 ⟨⟨L, rfl, hL⟩, rfl⟩
  have HP := hid13 (fst_len x L hL)
  obtain ⟨p, hp⟩ : ∃ p, p = 32 - L := ⟨_, rfl⟩
  have hpi : 32 - (L : Int) = (p : Int) := by have := hL.2.1; omega
  have hpl : ((L : Nat) : Int) ≤ 32 := by have := hL.2.1; omega
  rw [← hp] at HP
  clear hL hp K
  go_wp2
  go_ret
  exact ⟨⟨p, rfl, HP.out⟩, rfl⟩
theorem ex_place (x : BitVec 32) (j : Nat) : ∀ m, m ≤ 32 → j < fr32 x m → ∃ p, p < m ∧ bt x p = true ∧ fr32 x p = j
  | 0, _, h => by rw [fr_zero] at h; omega
  | m + 1, hm, h => by
    rw [fr_succ x m (by omega)] at h
    by_cases c : j < fr32 x m
    · obtain ⟨p, h1, h2, h3⟩ := ex_place x j m (by omega) c
      exact ⟨p, by omega, h2, h3⟩
    · cases hb : bt x m
      · rw [hb] at h; simp at h; omega
      · rw [hb] at h; simp at h
        exact ⟨m, by omega, hb, by omega⟩
theorem fr_mono (x : BitVec 32) (p q : Nat) (h : p ≤ q) (hq : q ≤ 32) : fr32 x p ≤ fr32 x q := by
  induction q with
  | zero => have : p = 0 := by omega
            subst this; exact Nat.le_refl _
  | succ q ih =>
    by_cases c : p = q + 1
    · subst c; exact Nat.le_refl _
    · have := ih (by omega) (by omega); rw [fr_succ x q (by omega)]; omega
theorem fr_one (x : BitVec 32) (p q : Nat) (hp : bt x p = true) (hq : bt x q = true) (h1 : p < 32) (h2 : q < 32) (h : fr32 x p = fr32 x q) : p = q := by
  by_cases c : p < q
  · have h3 := fr_mono x (p + 1) q (by omega) (by omega)
    rw [fr_succ x p h1, hp] at h3
    simp at h3; omega
  · by_cases d : q < p
    · have h3 := fr_mono x (q + 1) p (by omega) (by omega)
      rw [fr_succ x q h2, hq] at h3
      simp at h3; omega
    · omega
def ClrQ (x : BitVec 32) (j : Nat) (W : BitVec 32) : Prop := ∀ p, p < 32 → bt W p = (bt x p && decide (j ≤ fr32 x p))
theorem clr_zero (x : BitVec 32) : ClrQ x 0 x := fun p _ => by simp
theorem clr_fst (x W : BitVec 32) (j p : Nat) (h : ClrQ x j W) (hj : j < on32 x) (hp : FstP W p) : bt x p = true ∧ fr32 x p = j := by
  obtain ⟨p0, h1, h2, h3⟩ := ex_place x j 32 (Nat.le_refl _) (by rw [fr_all]; exact hj)
  obtain ⟨q1, q2, q3⟩ := hp
  have e := h p q1
  rw [q2] at e
  have e2 := e.symm
  rw [Bool.and_eq_true, decide_eq_true_eq] at e2
  have e0 : bt W p0 = true := by rw [h p0 h1, h2, h3]; simp
  have hle : p ≤ p0 := by
    rcases Nat.lt_or_ge p0 p with c | c
    · rw [q3 p0 c] at e0; cases e0
    · exact c
  have := fr_mono x p p0 hle (by omega)
  exact ⟨e2.1, by omega⟩
theorem clr_ne (x W : BitVec 32) (j : Nat) (h : ClrQ x j W) (hj : j < on32 x) : W ≠ 0#32 := by
  obtain ⟨p0, h1, h2, h3⟩ := ex_place x j 32 (Nat.le_refl _) (by rw [fr_all]; exact hj)
  intro e
  have e0 : bt W p0 = true := by rw [h p0 h1, h2, h3]; simp
  rw [e] at e0
  unfold bt at e0
  simp at e0
theorem clr_step (x W : BitVec 32) (j p : Nat) (h : ClrQ x j W) (hj : j < on32 x) (hp : FstP W p) : ClrQ x (j + 1) (W &&& ~~~ (cOne >>> p)) := by
  obtain ⟨a1, a2⟩ := clr_fst x W j p h hj hp
  obtain ⟨q1, -, -⟩ := hp
  intro q hq
  have hb : bt (W &&& ~~~ (cOne >>> p)) q = (bt W q && decide (q ≠ p)) := by
    have ht : cOne >>> p = tp (31 - p) := by
      have : ∀ r : Fin 32, cOne >>> r.val = tp (31 - r.val) := by decide +kernel
      exact this ⟨p, q1⟩
    unfold bt
    rw [BitVec.getLsbD_and, BitVec.getLsbD_not, ht]
    unfold tp
    rw [BitVec.getLsbD_twoPow]
    have : 31 - q < 32 := by omega
    have h31 : 31 - p < 32 := by omega
    by_cases c : q = p
    · subst c; simp
    · have c2 : ¬ 31 - p = 31 - q := by omega
      simp [c, c2, this]
  rw [hb, h q hq]
  cases hbx : bt x q
  · simp
  · by_cases c : q = p
    · subst c
      have : ¬ j + 1 ≤ fr32 x q := by omega
      simp [this]
    · have hne : fr32 x q ≠ j := fun e => c (fr_one x q p hbx a1 hq q1 (by omega))
      have e2 : decide (j ≤ fr32 x q) = decide (j + 1 ≤ fr32 x q) := decide_eq_decide.2 (by omega)
      rw [e2]
      simp [c]
set_option maxRecDepth 100000 in
set_option maxHeartbeats 8000000 in
theorem placeIn_any (x : BitVec 32) (k : Nat) (hk : k < on32 x) (w : World) :
    Calls Tryd.prog 32 #[.int .u32 (uI x), .int .i64 (k : Int)] w fun e w' => (∃ p : Nat, e = .returned (.int .i64 (p : Int)) ∧ p < 32 ∧ bt x p = true ∧ fr32 x p = k) ∧ w' = w := by
  have hk32 : k < 32 := by have := bsN_le 32 x.toNat; unfold on32 at hk; omega
  have HK := hid13 hk
  clear hk
  go_enter Tryd.func32, Tryd.ntmps32
  go_wp2_with fail
  go_loopg [0, 6] k (fun g a i wr => wr = w ∧ ∃ (j : Nat) (W : BitVec 32), j + g = k ∧ a = .int .u32 (uI W) ∧ i = .int .i64 (j : Int) ∧ Hid (ClrQ x j W))
  case atStart => exact ⟨rfl, 0, x, by omega, rfl, rfl, clr_zero x⟩
  case round =>
    obtain ⟨hw, j, W, hj, rfl, rfl, HC⟩ := hrel
    replace hw := hw.symm
    subst hw
    by_cases hlt : j < k
    · have hli : (j : Int) < (k : Int) := by omega
      have hjo : j < on32 x := by have := HK.out; omega
      have mk : IntKind.i64.wrap ((j : Int) + 1) = (j : Int) + 1 := by rw [IntKind.wrap_i64]; omega
      have KL := lead_any W (clr_ne x W j HC.out hjo) w
      have HJ : Hid (j + gk = k ∧ j < k ∧ j < on32 x) := ⟨hj, hlt, hjo⟩
      clear hj hjo
      go_wp2_with fail
      refine KL.mono ?_
      rintro e w1 ⟨⟨p, rfl, hp⟩, hw1⟩
      replace hw1 := hw1.symm
      subst hw1
      have HN := hid13 (clr_step x W j p HC.out HJ.out.2.2 hp)
      have hp32 : ((p : Nat) : Int) < 32 := by have := hp.1; omega
      have hsh := shrOne p hp.1
      have han := andNot32 W (cOne >>> p)
      clear hp KL HC
      go_wp2
      go_roundg (gk - 1)
      case measure => have := HJ.out; omega
      case rel => exact ⟨rfl, j + 1, _, by have := HJ.out; omega, rfl, rfl, HN⟩
    · have hli : ¬ (j : Int) < (k : Int) := by omega
      obtain rfl : j = k := by omega
      have KL := lead_any W (clr_ne x W j HC.out HK.out) w
      go_wp2_with fail
      refine KL.mono ?_
      rintro e w1 ⟨⟨p, rfl, hp⟩, hw1⟩
      replace hw1 := hw1.symm
      subst hw1
      have HN := hid13 (And.intro hp.1 (clr_fst x W j p HC.out HK.out hp))
      clear hp KL HC
      go_wp2
      go_ret
      exact ⟨⟨p, rfl, HN.out.1, HN.out.2.1, HN.out.2.2⟩, rfl⟩
theorem sumW_mono (U : List (BitVec 32)) (a b : Nat) (h : a ≤ b) : sumW U a ≤ sumW U b := by
  induction b with
  | zero => have : a = 0 := by omega
            subst this; exact Nat.le_refl _
  | succ b ih =>
    by_cases c : a = b + 1
    · subst c; exact Nat.le_refl _
    · have := ih (by omega); simp only [sumW]; omega
def SelQ (U : List (BitVec 32)) (k p : Nat) : Prop := p < 32 * U.length ∧ plc U p = true ∧ cnt U p = k
def SelR (U : List (BitVec 32)) (k : Int) (e : Ending) : Prop :=
  (0 ≤ k ∧ k < (sumW U U.length : Int) ∧ ∃ p : Nat, e = .returned (.tuple #[.int .i64 (p : Int), .int .i64 0]) ∧ SelQ U k.toNat p) ∨ (¬ (0 ≤ k ∧ k < (sumW U U.length : Int)) ∧ e = .returned (.tuple #[.int .i64 0, .int .i64 2]))
set_option maxRecDepth 100000 in
set_option maxHeartbeats 8000000 in
theorem select_any (v : Value) (U : List (BitVec 32)) (k : Int) (w : World) (hv : RwX cU w v U) (hl : U.length ≤ 100000000000000) (h0 : -9223372036854775808 ≤ k) (h1 : k ≤ 9223372036854775807) :
    Calls Tryd.prog 19 #[v, .int .i64 k] w fun e w' => SelR U k e ∧ Below w.heap.size w w' := by
  obtain ⟨ao, cc, rfl, -, hv⟩ := hv
  by_cases hn : k < 0
  · go_enter Tryd.func19, Tryd.ntmps19
    go_wp2_with fail
    exact bodyPost_ret (v := .tuple #[.int .i64 0, .int .i64 2]) (by simp [results, Tryd.results19, go_sem]) rfl ⟨.inr ⟨by omega, rfl⟩, Below.refl _ _⟩
  obtain ⟨K, rfl⟩ : ∃ K : Nat, k = (K : Int) := ⟨k.toNat, by omega⟩
  have HV := hid13 hv
  have HL := hid13 hl
  have HB := hid13 (Below.refl w.heap.size w)
  have hK63 : (K : Int) ≤ 9223372036854775807 := h1
  clear hv hl h0 h1
  go_enter Tryd.func19, Tryd.ntmps19
  go_wp2_with fail
  go_loopg [1, 6, 7, 8, 13] U.length (fun g kv i6 x7 n8 i wr => ∃ a m : Nat, a + g = U.length ∧ i = .int .i64 (a : Int) ∧ kv = .int .i64 (m : Int) ∧ m ≤ K ∧ Hid (m + sumW U a = K) ∧ Hid (Below w.heap.size w wr))
  case atStart => exact ⟨0, K, by omega, rfl, rfl, Nat.le_refl _, rfl, HB⟩
  case round =>
    clear HB
    obtain ⟨a, m, hk, rfl, rfl, hmK, HM, HB⟩ := hrel
    by_cases hlt : a < U.length
    · have hli : (a : Int) < (U.length : Int) := by omega
      obtain ⟨bo, off, rfl, hc1⟩ : ∃ bo off, ao = some ⟨bo, off, none⟩ ∧ ∀ j x, U[j]? = some x → w.cell? ⟨bo, off + j, none⟩ = some (cU x) := by
        rcases HV.out with h | h
        · rw [h] at hlt; simp at hlt
        · exact h
      obtain ⟨x, hx⟩ : ∃ x, U[a]? = some x := ⟨U[a], by simp [hlt]⟩
      have r1 : wr.cell? ⟨bo, off + a, none⟩ = some (.int .u32 (uI x)) := keepc HB.out (hc1 a x hx)
      have mk : IntKind.i64.wrap ((a : Int) + 1) = (a : Int) + 1 := by have := HL.out; rw [IntKind.wrap_i64]; omega
      have hgd : U.getD a 0#32 = x := by rw [List.getD_eq_getElem?_getD, hx]; rfl
      have HS : Hid (sumW U (a + 1) = sumW U a + on32 x) := by show _ = _; simp only [sumW]; rw [hgd]
      have HK : Hid (a + gk = U.length ∧ a < U.length) := ⟨hk, hlt⟩
      have HG := hid13 hgd
      have KO := onesCount_any x wr
      clear hc1 hx hk hgd
      by_cases hin : m < on32 x
      · have KP := fun W => placeIn_any x m hin W
        have HIN := hid13 hin
        obtain ⟨o, ho⟩ : ∃ o, o = on32 x := ⟨_, rfl⟩
        rw [← ho] at KO hin
        have hini : (m : Int) < (o : Int) := by omega
        clear ho
        go_wp2_with (go_at_call 31; refine KO.mono ?_; rintro e w1 ⟨rfl, hb1⟩; have HB1 := hid13 (keepb hb1 HB.out); clear hb1)
        refine (KP _).mono ?_
        rintro e w2 ⟨⟨p, rfl, hp1, hp2, hp3⟩, hw2⟩
        replace hw2 := hw2.symm
        subst hw2
        have HQ : Hid (SelR U (K : Int) (.returned (.tuple #[.int .i64 (((32 * a + p : Nat)) : Int), .int .i64 0]))) := by
          have hs := HS.out
          have hm := HM.out
          have hle : sumW U (a + 1) ≤ sumW U U.length := sumW_mono U _ _ (by have := HK.out; omega)
          refine .inl ⟨by omega, by have := HIN.out; omega, 32 * a + p, rfl, by have := HK.out; omega, ?_, ?_⟩
          · unfold plc
            rw [show (32 * a + p) / 32 = a by omega, show (32 * a + p) % 32 = p by omega, HG.out]; exact hp2
          · rw [cnt_at U a p (by omega), HG.out, hp3, Int.toNat_natCast]; omega
        have e1 : (a : Int) * 32 + (p : Int) = ((32 * a + p : Nat) : Int) := by omega
        have hab : (a : Int) ≤ 100000000000000 := by have := HL.out; have := HK.out; omega
        have hpb : (p : Int) < 32 := by omega
        clear hp1 hp2 hp3 KP KO HS HM HG HIN
        go_wp2
        exact bodyPost_ret (v := .tuple #[.int .i64 ((a : Int) * 32 + (p : Int)), .int .i64 0]) (by simp [results, Tryd.results19, go_sem]; unfold wrap64; omega) rfl ⟨by rw [e1]; exact HQ.out, HB1.out⟩
      · obtain ⟨o, ho⟩ : ∃ o, o = on32 x := ⟨_, rfl⟩
        rw [← ho] at KO hin HS
        have hini : ¬ (m : Int) < (o : Int) := by omega
        obtain ⟨m', hm'⟩ : ∃ m', m' + o = m := ⟨m - o, by omega⟩
        have hmi : (m : Int) - (o : Int) = (m' : Int) := by omega
        have HN : Hid (m' + sumW U (a + 1) = K) := by show _ = _; have h1 := HS.out; have h2 := HM.out; omega
        have hm'K : m' ≤ K := by omega
        clear ho hm'
        go_wp2_with (go_at_call 31; refine KO.mono ?_; rintro e w1 ⟨rfl, hb1⟩; have HB1 := hid13 (keepb hb1 HB.out); clear hb1)
        go_roundg (gk - 1)
        case measure => have := HK.out; omega
        case rel => exact ⟨a + 1, m', by have := HK.out; omega, rfl, rfl, hm'K, HN, HB1⟩
    · have hli : ¬ (a : Int) < (U.length : Int) := by omega
      obtain rfl : a = U.length := by omega
      have HQ : Hid (¬ (0 ≤ (K : Int) ∧ (K : Int) < (sumW U U.length : Int))) := by show ¬ _; have := HM.out; omega
      go_wp2_with fail
      exact bodyPost_ret (v := .tuple #[.int .i64 0, .int .i64 2]) (by simp [results, Tryd.results19, go_sem]) rfl ⟨.inr ⟨HQ.out, rfl⟩, HB.out⟩
end Go.Proofs.YthbdmdafldombabDoor
namespace Go.Proofs.YthbdmdafldombabDoor
open Go.RowKit
set_option linter.unusedSimpArgs false
set_option linter.unusedVariables false

def Hf (w : World) : Prop := ∀ j, j < 16 → w.cell? ⟨0, j, none⟩ = some (.int .u32 (uI (cT j)))
theorem Hf.below {w w' : World} (h : Hf w) (hb : Below w.heap.size w w') : Hf w' := fun j hj => keepc hb (h j hj)
theorem nib32 (x : BitVec 32) : bits .and .u32 (uI x) 15 = ((x.toNat % 16 : Nat) : Int) := by
  have e : (15 : Int) = uI 15#32 := lit32 15 (by decide)
  have h : bits .and .u32 (uI x) (uI 15#32) = ((x.toNat % 16 : Nat) : Int) := by
    rw [and32, and15, uI_of _ (by omega)]
  rw [← e] at h
  exact h
theorem sh4 (x : BitVec 32) : uI x / (16 : Int) = uI (x >>> 4) := by have := shr32 x 4; simpa using this
theorem byX (c : BitVec 32) (b : Nat) (h : b < 256) : bits .xor .u32 (uI c) (b : Int) = uI (c ^^^ BitVec.ofNat 32 b) := by
  rw [← xor32, uI_of b (by omega)]
theorem stp_4 (c : BitVec 32) (b : Nat) : hbN 4 (hbN 4 (c ^^^ BitVec.ofNat 32 b)) = stp c b := by
  unfold stp; rw [← hbN_add]
def intOf13 : Value → Int | .int _ q => q | _ => 0
theorem crF_at {l : List Nat} {k : Nat} (hk : k < l.length) (C : BitVec 32) : crF C (l.drop k) = crF (stp C (l[k])) (l.drop (k + 1)) := by
  rw [List.drop_eq_getElem_cons hk, crF_cons]
theorem nibF {w : World} (hT : Hf w) (x : BitVec 32) : ∃ d : Nat, ∃ t : Int, d < 16 ∧ bits .and .u32 (uI x) 15 = (d : Int) ∧ w.cell? ⟨0, d, none⟩ = some (.int .u32 t) ∧ bits .xor .u32 (uI x / (16 : Int)) t = uI (hbN 4 x) := by
  refine ⟨x.toNat % 16, uI (cT (x.toNat % 16)), by omega, nib32 x, hT _ (by omega), ?_⟩
  rw [sh4, xor32, hb_four]
def AlI (l : List Nat) (ao : Option Addr) (cc : Nat) (c : BitVec 32) (a' : Act) : Prop := ∃ (k : Nat) (C : BitVec 32) (u6 u7 u8 u9 u10 u11 u12 u13 u14 u15 u16 u17 u18 u19 u20 u21 u22 u23 u24 u25 u26 u27 u28 u29 u30 u31 u32 u33 : Value), a' = { tmps := #[.int .u32 (uI C), .slice ao l.length cc, undef, undef, .int .u32 0, .int .i64 (k : Int), u6, u7, u8, u9, u10, u11, u12, u13, u14, u15, u16, u17, u18, u19, u20, u21, u22, u23, u24, u25, u26, u27, u28, u29, u30, u31, u32, u33], defers := [] } ∧ k ≤ l.length ∧ Hid (crF C (l.drop k) = crF c l)
theorem AlI.mk {l : List Nat} {ao : Option Addr} {cc : Nat} {c : BitVec 32} (k : Nat) (C : BitVec 32) (u6 u7 u8 u9 u10 u11 u12 u13 u14 u15 u16 u17 u18 u19 u20 u21 u22 u23 u24 u25 u26 u27 u28 u29 u30 u31 u32 u33 : Value) (hk : k ≤ l.length) (h : Hid (crF C (l.drop k) = crF c l)) : AlI l ao cc c { tmps := #[.int .u32 (uI C), .slice ao l.length cc, undef, undef, .int .u32 0, .int .i64 (k : Int), u6, u7, u8, u9, u10, u11, u12, u13, u14, u15, u16, u17, u18, u19, u20, u21, u22, u23, u24, u25, u26, u27, u28, u29, u30, u31, u32, u33], defers := [] } := ⟨k, C, u6, u7, u8, u9, u10, u11, u12, u13, u14, u15, u16, u17, u18, u19, u20, u21, u22, u23, u24, u25, u26, u27, u28, u29, u30, u31, u32, u33, rfl, hk, h⟩
def AlM (l : List Nat) (a' : Act) : Nat := l.length - (intOf13 (a'.tmps.getD 5 undef)).toNat
set_option maxRecDepth 1000000 in
set_option maxHeartbeats 8000000 in
theorem along_any (c : BitVec 32) (v : Value) (l : List Nat) (w : World) (hv : RwX cB w v l) (hl : l.length ≤ 9223372036854775806) (hb : ∀ b ∈ l, b < 256) (hT : Hf w) :
    Calls Tryd.prog 26 #[.int .u32 (uI c), v] w fun e w' => e = .returned (.int .u32 (uI (crF c l))) ∧ w' = w := by
  obtain ⟨ao, cc, rfl, hc, hv⟩ := hv
  have HV := hid13 hv
  have HT := hid13 hT
  have HB := hid13 hb
  have HL := hid13 hl
  clear hv hT hb hc hl
  go_enter Tryd.func26, Tryd.ntmps26
  go_wp2
  refine wp_scope_jumps 0 (fun a' w' => w' = w ∧ AlI l ao cc c a') (fun a' _ => AlM l a') rfl ?_ ?_
  · have HC : Hid (crF c (l.drop 0) = crF c l) := by show crF c (l.drop 0) = crF c l; simp
    by_cases hlt : 0 < l.length
    · have hne : ¬ ((0 : Int) = (l.length : Int)) := by omega
      obtain ⟨b, hb0⟩ : ∃ b, b = l[0]'hlt := ⟨_, rfl⟩
      have hb1 : b < 256 := HB.out b (by rw [hb0]; exact List.getElem_mem hlt)
      obtain ⟨bo, off, rfl, hcell⟩ : ∃ bo off, ao = some ⟨bo, off, none⟩ ∧ ∀ j x, l[j]? = some x → w.cell? ⟨bo, off + j, none⟩ = some (cB x) := by
        rcases HV.out with h | h
        · rw [h] at hlt; simp at hlt
        · exact h
      have hrd : w.cell? ⟨bo, off + 0, none⟩ = some (.int .u8 (b : Int)) := by
        have := hcell 0 b (by rw [hb0]; simp [hlt])
        exact this
      clear hcell HV
      have hx := byX c b hb1
      have HE : Hid (crF (hbN 4 (hbN 4 (c ^^^ BitVec.ofNat 32 b))) (l.drop (0 + 1)) = crF c l) := by
        show _ = _
        rw [stp_4, hb0, ← crF_at hlt]; exact HC.out
      obtain ⟨X, hX⟩ : ∃ X, X = c ^^^ BitVec.ofNat 32 b := ⟨_, rfl⟩
      rw [← hX] at hx HE
      obtain ⟨d, t, hd, f1, f2, f3⟩ := nibF HT.out X
      obtain ⟨Y, hY⟩ : ∃ Y, Y = hbN 4 X := ⟨_, rfl⟩
      rw [← hY] at f3 HE
      obtain ⟨d2, t2, hd2, g1, g2, g3⟩ := nibF HT.out Y
      have hd' : ((d : Nat) : Int) < 16 := by omega
      have hd2' : ((d2 : Nat) : Int) < 16 := by omega
      have hbi : ((b : Nat) : Int) < 256 := by omega
      have mk : IntKind.i64.wrap ((0 : Int) + 1) = (0 : Int) + 1 := by have := HL.out; rw [IntKind.wrap_i64]; omega
      have HLT := hid13 hlt
      have HB0 := hid13 hb0
      clear hX hY HC hb0
      rw [Nat.add_zero] at hrd
      clear mk
      go_wp2
      go_step3
      go_wp2
      go_step3
      exact ⟨rfl, rfl, AlI.mk 1 (hbN 4 Y) _ _ _ _ _ _ _ _ _ _ _ _ _ _ _ _ _ _ _ _ _ _ _ _ _ _ _ _ HLT.out HE⟩
    · have h0 : l = [] := List.eq_nil_of_length_eq_zero (by omega)
      subst h0
      go_wp2
      go_step3
      go_wp2
      simp only [Exit.jump]
      go_ret
      exact ⟨rfl, rfl⟩
  · rintro a' w' ⟨rfl, k, C, u6, u7, u8, u9, u10, u11, u12, u13, u14, u15, u16, u17, u18, u19, u20, u21, u22, u23, u24, u25, u26, u27, u28, u29, u30, u31, u32, u33, rfl, hk, HC⟩
    by_cases hlt : k < l.length
    · have hne : ¬ ((k : Int) = (l.length : Int)) := by omega
      obtain ⟨b, hb0⟩ : ∃ b, b = l[k]'hlt := ⟨_, rfl⟩
      have hb1 : b < 256 := HB.out b (by rw [hb0]; exact List.getElem_mem hlt)
      obtain ⟨bo, off, rfl, hcell⟩ : ∃ bo off, ao = some ⟨bo, off, none⟩ ∧ ∀ j x, l[j]? = some x → w'.cell? ⟨bo, off + j, none⟩ = some (cB x) := by
        rcases HV.out with h | h
        · rw [h] at hlt; simp at hlt
        · exact h
      have hrd : w'.cell? ⟨bo, off + k, none⟩ = some (.int .u8 (b : Int)) := by
        have := hcell k b (by rw [hb0]; simp [hlt])
        exact this
      clear hcell HV
      have hx := byX C b hb1
      have HE : Hid (crF (hbN 4 (hbN 4 (C ^^^ BitVec.ofNat 32 b))) (l.drop (k + 1)) = crF c l) := by
        show _ = _
        rw [stp_4, hb0, ← crF_at hlt]; exact HC.out
      obtain ⟨X, hX⟩ : ∃ X, X = C ^^^ BitVec.ofNat 32 b := ⟨_, rfl⟩
      rw [← hX] at hx HE
      obtain ⟨d, t, hd, f1, f2, f3⟩ := nibF HT.out X
      obtain ⟨Y, hY⟩ : ∃ Y, Y = hbN 4 X := ⟨_, rfl⟩
      rw [← hY] at f3 HE
      obtain ⟨d2, t2, hd2, g1, g2, g3⟩ := nibF HT.out Y
      have hd' : ((d : Nat) : Int) < 16 := by omega
      have hd2' : ((d2 : Nat) : Int) < 16 := by omega
      have hbi : ((b : Nat) : Int) < 256 := by omega
      have mk : IntKind.i64.wrap ((k : Int) + 1) = (k : Int) + 1 := by have := HL.out; rw [IntKind.wrap_i64]; omega
      have HLT := hid13 hlt
      have HB0 := hid13 hb0
      clear hX hY HC hb0
      go_wp2
      go_step3
      refine ⟨rfl, ⟨rfl, AlI.mk (k + 1) (hbN 4 Y) _ _ _ _ _ _ _ _ _ _ _ _ _ _ _ _ _ _ _ _ _ _ _ _ _ _ _ _ HLT.out HE⟩, ?_⟩
      show l.length - ((k : Int) + 1).toNat < l.length - (k : Int).toNat
      have := HLT.out
      omega
    · have hq : (k : Int) = (l.length : Int) := by omega
      have HE : Hid (C = crF c l) := by
        have := HC.out
        rw [List.drop_eq_nil_of_le (by omega), crF_nil] at this
        exact this
      go_wp2
      simp only [Exit.jump]
      go_ret
      exact ⟨by rw [← HE.out]; rfl, rfl⟩

theorem flat_at {P : List (Value × List Nat)} {k : Nat} (hk : k < P.length) (C : BitVec 32) : crF C ((P.drop k).map (·.2)).flatten = crF (crF C (P[k].2)) ((P.drop (k + 1)).map (·.2)).flatten := by
  rw [List.drop_eq_getElem_cons hk, List.map_cons, List.flatten_cons, crF_app]
theorem notU (x : BitVec 32) : bits .xor .u32 IntKind.u32.max (uI x) = uI (~~~ x) := by
  have e : IntKind.u32.max = uI (BitVec.allOnes 32) := by rw [uI_eq]; decide
  rw [e, xor32, not_xor]
set_option maxRecDepth 100000 in
set_option maxHeartbeats 8000000 in
theorem sum_any (v : Value) (P : List (Value × List Nat)) (w : World) (hv : RwX (fun p : Value × List Nat => p.1) w v P) (hP : ∀ p ∈ P, RwX cB w p.1 p.2 ∧ p.2.length ≤ 9223372036854775806 ∧ ∀ b ∈ p.2, b < 256) (hl : P.length ≤ 9223372036854775806) (hT : Hf w) :
    Calls Tryd.prog 10 #[v] w fun e w' => e = .returned (.int .u32 (uI (crS (P.map (·.2)).flatten))) ∧ w' = w := by
  obtain ⟨ao, cc, rfl, hc, hv⟩ := hv
  have HV := hid13 hv
  have HT := hid13 hT
  have HP := hid13 hP
  have HL := hid13 hl
  have hs : ¬ IntKind.u32.signed = true := by decide
  clear hv hT hP hc hl
  go_enter Tryd.func10, Tryd.ntmps10
  go_wp2_with fail
  go_loopg [3, 5, 8] P.length (fun g a b i wr => wr = w ∧ ∃ (k : Nat) (C : BitVec 32), k + g = P.length ∧ a = .int .u32 (uI C) ∧ i = .int .i64 (k : Int) ∧ Hid (crF C ((P.drop k).map (·.2)).flatten = crF (BitVec.allOnes 32) (P.map (·.2)).flatten))
  case atStart =>
    refine ⟨rfl, 0, BitVec.allOnes 32, by omega, ?_, rfl, rfl⟩
    exact congrArg (Value.int .u32) (by rw [uI_eq]; decide)
  case round =>
    obtain ⟨rfl, k, C, hk, rfl, rfl, HC⟩ := hrel
    by_cases hlt : k < P.length
    · have hli : (k : Int) < (P.length : Int) := by omega
      obtain ⟨bo, off, rfl, hcell⟩ : ∃ bo off, ao = some ⟨bo, off, none⟩ ∧ ∀ j x, P[j]? = some x → wr.cell? ⟨bo, off + j, none⟩ = some x.1 := by
        rcases HV.out with h | h
        · rw [h] at hlt; simp at hlt
        · exact h
      obtain ⟨q, hq⟩ : ∃ q, q = P[k] := ⟨_, rfl⟩
      have hrd : wr.cell? ⟨bo, off + k, none⟩ = some q.1 := hcell k q (by rw [hq]; simp [hlt])
      have hq2 := hid13 (HP.out q (by rw [hq]; exact List.getElem_mem hlt))
      have HE : Hid (crF (crF C q.2) ((P.drop (k + 1)).map (·.2)).flatten = crF (BitVec.allOnes 32) (P.map (·.2)).flatten) := by
        show _ = _
        rw [hq, ← flat_at hlt]; exact HC.out
      have mk : IntKind.i64.wrap ((k : Int) + 1) = (k : Int) + 1 := by have := HL.out; rw [IntKind.wrap_i64]; omega
      have HK := hid13 hk
      have HLT := hid13 hlt
      clear hq hcell HC hk
      obtain ⟨qv, ql⟩ := q
      go_wp2_with (go_at_call 26; refine (along_any C qv ql _ hq2.out.1 hq2.out.2.1 hq2.out.2.2 HT.out).mono ?_; rintro e w1 ⟨rfl, rfl⟩)
      go_roundg (gk - 1)
      case measure => have := HK.out; have := HLT.out; omega
      case rel => exact ⟨rfl, k + 1, _, by have := HK.out; have := HLT.out; omega, rfl, rfl, HE⟩
    · have hli : ¬ (k : Int) < (P.length : Int) := by omega
      have HE : Hid (~~~ C = crS (P.map (·.2)).flatten) := by
        have := HC.out
        rw [List.drop_eq_nil_of_le (by omega), List.map_nil, List.flatten_nil, crF_nil] at this
        show ~~~ C = crS _
        unfold crS
        rw [this]
      have hn := notU C
      go_wp2_with fail
      go_ret
      exact ⟨congrArg Ending.returned (congrArg (Value.int .u32) (by first | exact congrArg uI HE.out | (rw [← HE.out]; exact hn))), rfl⟩
end Go.Proofs.YthbdmdafldombabDoor
namespace Go.Proofs.YthbdmdafldombabDoor
open Go.RowKit
set_option linter.unusedSimpArgs false
set_option linter.unusedVariables false

theorem Tryd.infoI13 : (Tryd.prog.info? 3).map (fun i => (i.zero, i.size, i.bytes)) = some (some (.int .i64 0), 1, 8) := by kernel_rfl
structure FoI (w W : World) (nw : Nat) (vf : Value) (U : List (BitVec 32)) (R : List Int) : Prop where
  b : Below w.heap.size w W
  m : W.ownsRow w.heap.size 24 1 (.slice (some ⟨w.heap.size, 0, none⟩) nw nw) nw (U.map cU)
  r : W.ownsRow (w.heap.size + 1) 3 1 vf R.length (R.map cI)
  s : w.heap.size + 1 ≤ W.heap.size
section
variable {w W W' : World} {nw : Nat} {vf : Value} {U : List (BitVec 32)} {R : List Int}
theorem FoI.below (h : FoI w W nw vf U R) (hb : Below W.heap.size W W') : FoI w W' nw vf U R :=
  ⟨keepb hb h.b, own_b13 hb h.m, own_b13 hb h.r, Nat.le_trans h.s hb.size⟩
theorem FoI.ul (h : FoI w W nw vf U R) : U.length = nw := by have := h.m.1; simpa using this
theorem FoI.cell (h : FoI w W nw vf U R) (k : Nat) (hk : k / 32 < nw) : W.cell? ⟨w.heap.size, k / 32, none⟩ = some (.int .u32 (uI (U.getD (k / 32) 0#32))) ∧ W.frozen? ⟨w.heap.size, k / 32, none⟩ = false := by
  have hl := h.ul
  refine ⟨?_, h.m.frozenAt _⟩
  rw [h.m.cellAt (k / 32) (by omega), List.getElem?_map, List.getD_eq_getElem?_getD, List.getElem?_eq_getElem (by omega)]
  rfl
theorem FoI.set (h : FoI w W nw vf U R) (k : Nat) (hk : k / 32 < nw) : FoI w (W.setCell ⟨w.heap.size, k / 32, none⟩ (.int .u32 (uI (U.getD (k / 32) 0#32 ||| (cOne >>> (k % 32)))))).drew nw vf (setP U k) R := by
  have hs := (h.m.stored (k / 32) (.int .u32 (uI (U.getD (k / 32) 0#32 ||| (cOne >>> (k % 32)))))).1
  have e : (setP U k).map cU = (U.map cU).set (k / 32) (.int .u32 (uI (U.getD (k / 32) 0#32 ||| (cOne >>> (k % 32))))) := by
    unfold setP
    rw [List.map_set]; rfl
  refine ⟨(h.b.setCell (Nat.le_refl _) _).drew, ?_, ?_, ?_⟩
  · rw [e]; exact own_b13 (below_drewN (Below.refl _ _) 1) hs
  · exact own_b13 (below_drewN (Below.refl _ _) 1) (ownsRow_setCell_below h.r (Nat.lt_succ_self _) _)
  · have : (W.setCell ⟨w.heap.size, k / 32, none⟩ (.int .u32 (uI (U.getD (k / 32) 0#32 ||| (cOne >>> (k % 32)))))).drew.heap.size = W.heap.size := by simp [World.setCell, World.drew]
    rw [this]; exact h.s
theorem FoI.grown (h : FoI w W nw vf U R) {v' : Value} {x : Int} (ho : W'.ownsRow (w.heap.size + 1) 3 1 v' (R.length + 1) (R.map cI ++ [cI x])) (hg : W.grownBy W' vf.ownBlock) : FoI w W' nw v' U (R ++ [x]) := by
  refine ⟨h.b.grown hg (by have := h.s; omega) (fun k e => by have := (h.r.lt k e).1; omega), h.m.kept hg ?_, ?_, Nat.le_trans h.s hg.size⟩
  · cases e : vf.ownBlock with
    | none => exact .inr (by simp [Value.ownBlock])
    | some k => exact .inr (by have := (h.r.lt k e).1; simp only [Value.ownBlock, ne_eq, Option.some.injEq]; omega)
  · rw [List.length_append, List.map_append]
    exact ho
end
set_option maxRecDepth 100000 in
set_option maxHeartbeats 16000000 in
theorem foldI_any (v : Value) (l : List Int) (w : World) (hv : RwX cI w v l) (hl : l.length * 8 ≤ 140737488355328) :
    Calls Tryd.prog 20 #[v] w fun e w' => ∃ vf, e = .returned (.tuple #[.slice (some ⟨w.heap.size, 0, none⟩) ((l.length + 31) / 32) ((l.length + 31) / 32), vf]) ∧ FoI w w' ((l.length + 31) / 32) vf (fdU l l.length) (fdR l l.length) := by
  obtain ⟨ao, cc, rfl, hc, hv⟩ := hv
  obtain ⟨i0, hi, hz0, hz1, hz2⟩ := info13 Tryd.infoU13
  obtain ⟨j0, ji, jz0, jz1, jz2⟩ := info13 Tryd.infoI13
  obtain ⟨nw, hnw⟩ : ∃ nw, nw = (l.length + 31) / 32 := ⟨_, rfl⟩
  have hwd := words13 l.length (by omega)
  rw [← hnw] at hwd ⊢
  have HV := hid13 hv
  have HL := hid13 hl
  have HW := hid13 hnw
  have hby : i0.bytes * nw ≤ 281474976710656 := by rw [hz2]; omega
  have hmx : nw ≤ maxLen := by unfold maxLen; omega
  clear hv hc hnw hl
  go_enter Tryd.func20, Tryd.ntmps20
  go_wp2_with (first | (go_at_call 33; refine (hwd _).mono ?_; rintro e w1 ⟨rfl, hw1⟩; replace hw1 := hw1.symm; subst hw1) | (at_make; apply stopHere9))
  refine (show wpList _ _ _ _ _ _ from ?_)
  refine wpList_make_full _ rfl _ _ 39 rfl w.heap.size 24 i0 (.int .u32 0) 1 Tryd.underlying39 hi hz0 hz1 .i64 .i64 _ _ nw rfl rfl rfl rfl hby hmx (Nat.le_refl _) ?_
  intro w2 hown2 hgrow
  have HS0 : Hid (FoI w w2 nw (.slice none 0 0) (fdU l 0) (fdR l 0)) := by
    refine ⟨(Below.refl _ _).grown hgrow (Nat.le_refl _) (fun z hz => by cases hz), ?_, World.ownsRow_nil _ _ _ _, ?_⟩
    · have e : (fdU l 0).map cU = (madeCells (Value.int .u32 0).cells (nw * 1)).toList := by
        show _ = (madeCells #[Value.int .u32 0] (nw * 1)).toList
        rw [toList_madeCells_one, Nat.mul_one]
        simp only [fdU]
        rw [List.map_replicate, ← HW.out]
        unfold cU
        rw [uI_zero]
      rw [e]; exact hown2
    · have := (hown2.lt w.heap.size rfl).2; omega
  clear hown2 hgrow hby hwd
  go_wp2_with fail
  go_loopg [5, 6, 7, 14] l.length (fun g vf i6 x7 i wr => ∃ (k : Nat) (U : List (BitVec 32)) (R : List Int), k + g = l.length ∧ i = .int .i64 (k : Int) ∧ Hid (FoI w wr nw vf U R) ∧ Hid (U = fdU l k ∧ R = fdR l k))
  case atStart => exact ⟨0, _, _, by omega, rfl, HS0, rfl, rfl⟩
  case round =>
    clear HS0
    obtain ⟨k, U, R, hk, rfl, HS, HE⟩ := hrel
    by_cases hlt : k < l.length
    · have hli : (k : Int) < (l.length : Int) := by omega
      obtain ⟨bo, off, rfl, hcell⟩ : ∃ bo off, ao = some ⟨bo, off, none⟩ ∧ ∀ j x, l[j]? = some x → w.cell? ⟨bo, off + j, none⟩ = some (cI x) := by
        rcases HV.out with h | h
        · rw [h] at hlt; simp at hlt
        · exact h
      have HR : Hid (R.length < l.length ∧ l.length * 8 ≤ 140737488355328) := by
        have := fdR_len l k
        rw [← HE.out.2] at this
        exact ⟨by omega, HL.out⟩
      have hq : k / 32 < nw := by have := HW.out; omega
      have hq2 : k < nw * 32 := by omega
      have hn2 : nw ≤ 140737488355328 := by have := HW.out; have := HL.out; omega
      obtain ⟨x, hx⟩ : ∃ x, l[k]? = some x := ⟨l[k], by simp [hlt]⟩
      have hrd : wr.cell? ⟨bo, off + k, none⟩ = some (.int .i64 x) := keepc HS.out.b (hcell k x hx)
      have mk : IntKind.i64.wrap ((k : Int) + 1) = (k : Int) + 1 := by have := HL.out; rw [IntKind.wrap_i64]; omega
      have HX := hid13 hx
      have HK : Hid (k + gk = l.length ∧ k < l.length) := ⟨hk, hlt⟩
      have HC := hid13 hcell
      clear hx hcell
      by_cases k0 : k = 0
      · subst k0
        rw [Nat.add_zero] at hrd
        have hfy := hid13 (fd_yes l 0 x HX.out (flg_zero l))
        have HS1 := HS
        clear HS
        go_wp2_with (first | (go_at_call 35; refine (set_any w.heap.size nw nw (0) _ _ hq2 hn2 (HS1.out.cell (0) hq).1 (HS1.out.cell (0) hq).2).mono ?_; rintro e w3 ⟨rfl, hw3⟩; have HH := hid13 (HS1.out.set (0) hq); rw [← hw3] at HH; clear hw3 HS1) | (at_builtin; apply stopHere9))
        refine (show wpList _ _ _ _ _ _ from ?_)
        have h63 : R.length + 1 ≤ maxLen := by have := HR.out; unfold maxLen; omega
        have h47 : (R.length + 1) * 8 ≤ 140737488355328 := by have := HR.out; omega
        have q9 := bl1 w3 (.cells #[.int .i64 x] 3)
        have HO9 := hid13 (own_b13 q9 HH.out.r)
        have HB9 := hid13 (keepb q9 HH.out.b)
        have HS9 : Hid (w.heap.size + 1 ≤ (w3.alloc (.cells #[.int .i64 x] 3)).heap.size) := hid13 (Nat.le_trans HH.out.s q9.size)
        refine wpList_append_lies _ rfl _ _ 44 rfl (w.heap.size + 1) 3 j0 (.int .i64 0) 1 8 Tryd.underlying44 ji jz0 jz1 jz2 rfl (by decide) _ _ _ rfl HO9.out ⟨w3.heap.size, 0, none⟩ 1 1 [.int .i64 x] rfl rfl (news13 (by simp [go_sem])) (by intro u hu; simp at hu; subst hu; rfl) (by decide) h63 h47 HS9.out _ rfl ?_
        intro g4 cap4 w4 hown4 hgrow hat hlt4
        have HZ := hid13 ((HH.out.below q9).grown hown4 hgrow)
        clear hgrow hat hown4 hlt4 h63 h47 q9 HO9 HB9 HS9 HH
        go_wp2
        go_roundg (gk - 1)
        case measure => have := HK.out; omega
        case rel => exact ⟨1, _, _, by have := HK.out; omega, rfl, HZ, by rw [hfy.out.1, HE.out.1], by rw [hfy.out.2, HE.out.2]⟩
      · obtain ⟨j, rfl⟩ : ∃ j, k = j + 1 := ⟨k - 1, by omega⟩
        obtain ⟨y, hy⟩ : ∃ y, l[j]? = some y := ⟨l[j], by simp [show j < l.length by omega]⟩
        have hrd1 : wr.cell? ⟨bo, off + j, none⟩ = some (.int .i64 y) := keepc HS.out.b (HC.out j y hy)
        have hfs := hid13 (flg_succ l j x y HX.out hy)
        clear hy k0
        have wm : IntKind.i64.wrap (((j : Int) + 1) - 1) = (j : Int) := by have := HL.out; rw [IntKind.wrap_i64]; omega
        have hj0 : ((j : Int) + 1 == 0) = false := by simp; omega
        by_cases hxy : x = y
        · have hbq : (x == y) = true := by simp [hxy]
          have hfn := hid13 (fd_no l (j + 1) (by rw [hfs.out]; simp [hxy]))
          clear hfs hxy
          go_wp2_with (go_at_call 34; refine (sameI_any x y _).mono ?_; rintro e w1 ⟨rfl, hb1⟩; have HS1 := hid13 (HS.out.below hb1); clear hb1 HS hrd hrd1)
          go_roundg (gk - 1)
          case measure => have := HK.out; omega
          case rel => exact ⟨j + 1 + 1, _, _, by have := HK.out; omega, rfl, HS1, by rw [hfn.out.1, HE.out.1], by rw [hfn.out.2, HE.out.2]⟩
        · have hbq : (x == y) = false := by simp [hxy]
          have hfy := hid13 (fd_yes l (j + 1) x HX.out (by rw [hfs.out]; simp [hxy]))
          clear hfs hxy
          go_wp2_with (first | (go_at_call 34; refine (sameI_any x y _).mono ?_; rintro e w1 ⟨rfl, hb1⟩; have HS1 := hid13 (HS.out.below hb1); clear hb1 HS hrd hrd1) | (go_at_call 35; refine (set_any w.heap.size nw nw (j + 1) _ _ hq2 hn2 (HS1.out.cell (j + 1) hq).1 (HS1.out.cell (j + 1) hq).2).mono ?_; rintro e w3 ⟨rfl, hw3⟩; have HH := hid13 (HS1.out.set (j + 1) hq); rw [← hw3] at HH; clear hw3 HS1) | (at_builtin; apply stopHere9))
          refine (show wpList _ _ _ _ _ _ from ?_)
          have h63 : R.length + 1 ≤ maxLen := by have := HR.out; unfold maxLen; omega
          have h47 : (R.length + 1) * 8 ≤ 140737488355328 := by have := HR.out; omega
          have q9 := bl1 w3 (.cells #[.int .i64 x] 3)
          have HO9 := hid13 (own_b13 q9 HH.out.r)
          have HB9 := hid13 (keepb q9 HH.out.b)
          have HS9 : Hid (w.heap.size + 1 ≤ (w3.alloc (.cells #[.int .i64 x] 3)).heap.size) := hid13 (Nat.le_trans HH.out.s q9.size)
          refine wpList_append_lies _ rfl _ _ 44 rfl (w.heap.size + 1) 3 j0 (.int .i64 0) 1 8 Tryd.underlying44 ji jz0 jz1 jz2 rfl (by decide) _ _ _ rfl HO9.out ⟨w3.heap.size, 0, none⟩ 1 1 [.int .i64 x] rfl rfl (news13 (by simp [go_sem])) (by intro u hu; simp at hu; subst hu; rfl) (by decide) h63 h47 HS9.out _ rfl ?_
          intro g4 cap4 w4 hown4 hgrow hat hlt4
          have HZ := hid13 ((HH.out.below q9).grown hown4 hgrow)
          clear hgrow hat hown4 hlt4 h63 h47 q9 HO9 HB9 HS9 HH
          go_wp2
          go_roundg (gk - 1)
          case measure => have := HK.out; omega
          case rel => exact ⟨j + 1 + 1, _, _, by have := HK.out; omega, rfl, HZ, by rw [hfy.out.1, HE.out.1], by rw [hfy.out.2, HE.out.2]⟩
    · have hli : ¬ (k : Int) < (l.length : Int) := by omega
      have e : k = l.length := by omega
      subst e
      have HF : Hid (FoI w wr nw u5 (fdU l l.length) (fdR l l.length)) := by have := HS.out; rw [HE.out.1, HE.out.2] at this; exact this
      go_wp2_with fail
      exact bodyPost_ret (v := .tuple #[.slice (some ⟨w.heap.size, 0, none⟩) nw nw, u5]) (by simp [results, Tryd.results20, go_sem]) rfl ⟨_, rfl, HF.out⟩
end Go.Proofs.YthbdmdafldombabDoor
