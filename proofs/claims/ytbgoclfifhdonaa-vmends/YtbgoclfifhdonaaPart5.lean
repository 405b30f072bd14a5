/-
  Part 5 of the proof: 12 texts, one behind the other.
-/
import Derived.Test.YtbgoclfifhdonaaPart1
import Derived.Test.YtbgoclfifhdonaaPart4
import Derived.Test.YtbgoclfifhdonaaPart2
import Derived.Deep.RegionHeld3
import Derived.BigQuiet
import Derived.WalkMore
import Derived.Deep.LoopGhost
import Derived.Test.YtbgoclfifhdonaaPart3
namespace Go.Proofs.Ytbgoclfifhdonaa
open Go.RowKit
set_option linter.unusedSimpArgs false
set_option linter.unusedVariables false

theorem and255 (n : Nat) (h : n < 4294967296) : bits .and .u32 (n : Int) 255 = ((n % 256 : Nat) : Int) := by
  have e : (255 : Int) = uI 255#32 := lit32 255 (by decide)
  have h1 : (n : Int) = uI (BitVec.ofNat 32 n) := lit32 n h
  rw [e, h1, and32, uI_eq, BitVec.toNat_and, BitVec.toNat_ofNat, BitVec.toNat_ofNat]
  have h2 : n &&& 255 = n % 256 := Nat.and_two_pow_sub_one_eq_mod n 8
  have h3 : (2 : Nat) ^ 32 = 4294967296 := by decide
  rw [h3, Nat.mod_eq_of_lt h, show 255 % 4294967296 = 255 from rfl, h2]
theorem pop_at (b : Nat) (h : b < 256) : Lib.pop8 (b : Int) = ((bsN 8 b : Nat) : Int) := by
  rw [Lib.pop8_eq ⟨b, h⟩, ones8 b h]
set_option maxRecDepth 100000 in
set_option maxHeartbeats 8000000 in
theorem onesCount_any (x : BitVec 32) (w : World) :
    Calls Try.prog 65 #[.int .u32 (uI x)] w fun e w' => e = .returned (.int .i64 ((on32 x : Nat) : Int)) ∧ Below w.heap.size w w' := by
  have hx := x.isLt
  rw [uI_eq]
  unfold on32
  generalize x.toNat = n at hx
  have hs := bs32 n hx
  obtain ⟨N, hN⟩ : ∃ N : Int, N = (n : Int) := ⟨_, rfl⟩
  obtain ⟨b3, h3⟩ : ∃ b : Int, b = ((n / 16777216 : Nat) : Int) := ⟨_, rfl⟩
  obtain ⟨b2, h2⟩ : ∃ b : Int, b = ((n / 65536 % 256 : Nat) : Int) := ⟨_, rfl⟩
  obtain ⟨b1, h1⟩ : ∃ b : Int, b = ((n / 256 % 256 : Nat) : Int) := ⟨_, rfl⟩
  obtain ⟨b0, h0⟩ : ∃ b : Int, b = ((n % 256 : Nat) : Int) := ⟨_, rfl⟩
  obtain ⟨q3, e3⟩ : ∃ q : Int, q = ((bsN 8 (n / 16777216) : Nat) : Int) := ⟨_, rfl⟩
  obtain ⟨q2, e2⟩ : ∃ q : Int, q = ((bsN 8 (n / 65536 % 256) : Nat) : Int) := ⟨_, rfl⟩
  obtain ⟨q1, e1⟩ : ∃ q : Int, q = ((bsN 8 (n / 256 % 256) : Nat) : Int) := ⟨_, rfl⟩
  obtain ⟨q0, e0⟩ : ∃ q : Int, q = ((bsN 8 (n % 256) : Nat) : Int) := ⟨_, rfl⟩
  have l3 := bsN_le 8 (n / 16777216)
  have l2 := bsN_le 8 (n / 65536 % 256)
  have l1 := bsN_le 8 (n / 256 % 256)
  have l0 := bsN_le 8 (n % 256)
  have f3 : N / 16777216 = b3 := by rw [h3, hN]; omega
  have f2 : bits .and .u32 (N / 65536) 255 = b2 := by rw [h2, hN, show (n : Int) / 65536 = ((n / 65536 : Nat) : Int) by omega, and255 _ (by omega)]
  have f1 : bits .and .u32 (N / 256) 255 = b1 := by rw [h1, hN, show (n : Int) / 256 = ((n / 256 : Nat) : Int) by omega, and255 _ (by omega)]
  have f0 : bits .and .u32 N 255 = b0 := by rw [h0, hN, and255 _ (by omega)]
  have p3 : Lib.pop8 b3 = q3 := by rw [h3, e3]; exact pop_at _ (by omega)
  have p2 : Lib.pop8 b2 = q2 := by rw [h2, e2]; exact pop_at _ (by omega)
  have p1 : Lib.pop8 b1 = q1 := by rw [h1, e1]; exact pop_at _ (by omega)
  have p0 : Lib.pop8 b0 = q0 := by rw [h0, e0]; exact pop_at _ (by omega)
  have HE : Hid (q3 + q2 + q1 + q0 = ((bsN 32 n : Nat) : Int)) := by show _ = _; omega
  have B3 : 0 ≤ b3 ∧ b3 ≤ 255 := by omega
  have B2 : 0 ≤ b2 ∧ b2 ≤ 255 := by omega
  have B1 : 0 ≤ b1 ∧ b1 ≤ 255 := by omega
  have B0 : 0 ≤ b0 ∧ b0 ≤ 255 := by omega
  have Q3 : 0 ≤ q3 ∧ q3 ≤ 8 := by omega
  have Q2 : 0 ≤ q2 ∧ q2 ≤ 8 := by omega
  have Q1 : 0 ≤ q1 ∧ q1 ≤ 8 := by omega
  have Q0 : 0 ≤ q0 ∧ q0 ≤ 8 := by omega
  rw [← hN, ← HE.out]
  clear hs hN h3 h2 h1 h0 e3 e2 e1 e0 l3 l2 l1 l0 hx HE
  obtain ⟨B3a, B3b⟩ := B3
  obtain ⟨B2a, B2b⟩ := B2
  obtain ⟨B1a, B1b⟩ := B1
  obtain ⟨B0a, B0b⟩ := B0
  obtain ⟨Q3a, Q3b⟩ := Q3
  obtain ⟨Q2a, Q2b⟩ := Q2
  obtain ⟨Q1a, Q1b⟩ := Q1
  obtain ⟨Q0a, Q0b⟩ := Q0
  go_enter Try.func65, Try.ntmps65
  go_wp2_with fail
  go_quiet (fail)
  have HB : Hid (Below w.heap.size w (w.drewN nq)) := below_drewN (Below.refl _ _) nq
  go_wp2
  go_ret
  exact ⟨rfl, HB.out⟩
theorem rwx_pre {α : Type} {f : α → Value} {W : World} {ao : Option Addr} {n c : Nat} {l : List α} (h : RwX f W (.slice ao n c) l) (k : Nat) (hk : k ≤ l.length) : RwX f W (.slice ao k c) (l.take k) := by
  obtain ⟨ao', c', e, hc, h⟩ := h
  injection e with e1 e2 e3
  subst e1 e3
  have hl : (l.take k).length = k := by rw [List.length_take]; omega
  refine ⟨ao, c, by rw [hl], by omega, ?_⟩
  rcases h with h | ⟨b, off, e, h⟩
  · exact .inl (by rw [h]; simp)
  · refine .inr ⟨b, off, e, fun j x hj => h j x ?_⟩
    rw [List.getElem?_take] at hj
    split at hj
    · exact hj
    · cases hj
theorem sumW_take (U : List (BitVec 32)) (k : Nat) (hk : k ≤ U.length) : ∀ a, a ≤ k → sumW (U.take k) a = sumW U a
  | 0, _ => rfl
  | a + 1, h => by
    simp only [sumW]
    rw [sumW_take U k hk a (by omega)]
    congr 2
    rw [List.getD_eq_getElem?_getD, List.getD_eq_getElem?_getD, List.getElem?_take, if_pos (by omega)]
theorem sumW_le (U : List (BitVec 32)) : ∀ a, sumW U a ≤ 32 * a
  | 0 => Nat.le_refl _
  | a + 1 => by
    have h1 := sumW_le U a
    have h2 := bsN_le 32 (U.getD a 0#32).toNat
    simp only [sumW]
    unfold on32
    omega
set_option maxRecDepth 100000 in
set_option maxHeartbeats 8000000 in
theorem ones_any (v : Value) (U : List (BitVec 32)) (w : World) (hv : RwX cU w v U) (hl : U.length ≤ 100000000000000) :
    Calls Try.prog 64 #[v] w fun e w' => e = .returned (.int .i64 ((sumW U U.length : Nat) : Int)) ∧ Below w.heap.size w w' := by
  obtain ⟨ao, cc, rfl, -, hv⟩ := hv
  have HV := hid13 hv
  have HL := hid13 hl
  have HB := hid13 (Below.refl w.heap.size w)
  clear hv hl
  go_enter Try.func64, Try.ntmps64
  go_wp2_with fail
  go_loopg [3, 5, 8] U.length (fun g n x i wr => ∃ k m : Nat, k + g = U.length ∧ i = .int .i64 (k : Int) ∧ n = .int .i64 (m : Int) ∧ Hid (m = sumW U k) ∧ Hid (Below w.heap.size w wr))
  case atStart => exact ⟨0, 0, by omega, rfl, rfl, rfl, HB⟩
  case round =>
    clear HB
    obtain ⟨k, m, hk, rfl, rfl, HM, HB⟩ := hrel
    by_cases hlt : k < U.length
    · have hli : (k : Int) < (U.length : Int) := by omega
      obtain ⟨bo, off, rfl, hc1⟩ : ∃ bo off, ao = some ⟨bo, off, none⟩ ∧ ∀ j x, U[j]? = some x → w.cell? ⟨bo, off + j, none⟩ = some (cU x) := by
        rcases HV.out with h | h
        · rw [h] at hlt; simp at hlt
        · exact h
      obtain ⟨x, hx⟩ : ∃ x, U[k]? = some x := ⟨U[k], by simp [hlt]⟩
      have r1 : wr.cell? ⟨bo, off + k, none⟩ = some (.int .u32 (uI x)) := keepc HB.out (hc1 k x hx)
      have mk : IntKind.i64.wrap ((k : Int) + 1) = (k : Int) + 1 := by have := HL.out; rw [IntKind.wrap_i64]; omega
      have hon := bsN_le 32 x.toNat
      have hsm := sumW_le U k
      obtain ⟨o, ho⟩ : ∃ o, o = on32 x := ⟨_, rfl⟩
      have HE : Hid (m + o = sumW U (k + 1)) := by
        show _ = _
        simp only [sumW]
        rw [List.getD_eq_getElem?_getD, hx, Option.getD_some, ← ho, HM.out]
      have ms : IntKind.i64.wrap ((m : Int) + (o : Int)) = (m : Int) + (o : Int) := by
        have h1 := HM.out
        have h2 := HL.out
        unfold on32 at ho
        rw [IntKind.wrap_i64]; omega
      have HK : Hid (k + gk = U.length ∧ k < U.length) := ⟨hk, hlt⟩
      have KO := fun W => onesCount_any x W
      rw [← ho] at KO
      clear hc1 hx hk hon hsm HM ho
      go_wp2_with (go_at_call 65; refine (KO _).mono ?_; rintro e w1 ⟨rfl, hb1⟩; have HB1 := hid13 (keepb hb1 HB.out); clear hb1)
      go_roundg (gk - 1)
      case measure => have := HK.out; omega
      case rel => exact ⟨k + 1, m + o, by have := HK.out; omega, rfl, rfl, HE, HB1⟩
    · have hli : ¬ (k : Int) < (U.length : Int) := by omega
      obtain rfl : k = U.length := by omega
      go_wp2_with fail
      go_ret
      exact ⟨by rw [← HM.out]; rfl, HB.out⟩
def rkN (U : List (BitVec 32)) (i : Int) : Nat := if 0 ≤ i ∧ i < 32 * (U.length : Int) then cnt U (i.toNat + 1) else 0
def rkE (U : List (BitVec 32)) (i : Int) : Int := if 0 ≤ i ∧ i < 32 * (U.length : Int) then 0 else 30
set_option maxRecDepth 100000 in
set_option maxHeartbeats 8000000 in
theorem rank_any (v : Value) (U : List (BitVec 32)) (i : Int) (w : World) (hv : RwX cU w v U) (hl : U.length ≤ 100000000000000) (h0 : -9223372036854775808 ≤ i) (h1 : i ≤ 9223372036854775807) :
    Calls Try.prog 57 #[v, .int .i64 i] w fun e w' => e = .returned (.tuple #[.int .i64 ((rkN U i : Nat) : Int), .int .i64 (rkE U i)]) ∧ Below w.heap.size w w' := by
  unfold rkN rkE
  by_cases h : 0 ≤ i ∧ i < 32 * (U.length : Int)
  · rw [if_pos h, if_pos h]
    obtain ⟨j, rfl⟩ : ∃ j : Nat, i = (j : Int) := ⟨i.toNat, by omega⟩
    rw [Int.toNat_natCast]
    obtain ⟨q, hq⟩ : ∃ q, q = j / 32 := ⟨_, rfl⟩
    obtain ⟨r, hr⟩ : ∃ r, r = j % 32 := ⟨_, rfl⟩
    have hql : q < U.length := by omega
    obtain ⟨x, hx⟩ : ∃ x, U[q]? = some x := ⟨U[q], by simp [hql]⟩
    have hpre := fun W (hW : RwX cU W v U) => hW
    obtain ⟨ao, cc, rfl, hcc, hv'⟩ := id hv
    have HP : Hid (RwX cU w (.slice ao q cc) (U.take q)) := rwx_pre hv q (by omega)
    obtain ⟨bo, off, rfl, hc1⟩ : ∃ bo off, ao = some ⟨bo, off, none⟩ ∧ ∀ j x, U[j]? = some x → w.cell? ⟨bo, off + j, none⟩ = some (cU x) := by
      rcases hv' with h | h
      · rw [h] at hql; simp at hql
      · exact h
    have r1 : w.cell? ⟨bo, off + q, none⟩ = some (.int .u32 (uI x)) := hc1 q x hx
    have hq1 : (j : Int) / 32 = (q : Int) := by omega
    have hr1 : (j : Int) % 32 = (r : Int) := by omega
    obtain ⟨s, hs⟩ : ∃ s, s + r = 31 := ⟨31 - r, by omega⟩
    have hs1 : 31 - (r : Int) = (s : Int) := by omega
    have hsh := shr32 x s
    have hge : ¬ (U.length : Int) ≤ (q : Int) := by omega
    have hcq : ((q : Nat) : Int) ≤ ((cc : Nat) : Int) := by omega
    have hqi : ((q : Nat) : Int) < (U.length : Int) := by omega
    obtain ⟨A, hA⟩ : ∃ A, A = sumW U q := ⟨_, rfl⟩
    obtain ⟨B, hB⟩ : ∃ B, B = on32 (x >>> s) := ⟨_, rfl⟩
    have HE : Hid (A + B = cnt U (j + 1)) := by
      show _ = _
      rw [show j + 1 = 32 * q + (r + 1) by omega, cnt_at U q (r + 1) (by omega), List.getD_eq_getElem?_getD, hx, Option.getD_some, hA, hB, show s = 31 - r by omega, on_shr x r (by omega)]
    have hA1 := sumW_le U q
    have hB1 := bsN_le 32 (x >>> s).toNat
    have ms : IntKind.i64.wrap ((A : Int) + (B : Int)) = (A : Int) + (B : Int) := by
      unfold on32 at hB
      rw [IntKind.wrap_i64]; omega
    have KA := fun W hW => ones_any (.slice (some ⟨bo, off, none⟩) q cc) (U.take q) W hW (by rw [List.length_take]; omega)
    rw [List.length_take, Nat.min_eq_left (by omega), sumW_take U q (by omega) q (Nat.le_refl _), ← hA] at KA
    have KB := fun W => onesCount_any (x >>> s) W
    rw [← hB] at KB
    rw [← HE.out]
    clear hv hv' hc1 hx h hq hr hs hA hB hA1 hB1 HE hpre hql hcc
    go_enter Try.func57, Try.ntmps57
    go_wp2_with (first | (go_at_call 64; refine (KA _ HP.out).mono ?_; rintro e w1 ⟨rfl, hb1⟩; have HB1 := hid13 hb1; clear hb1) | (go_at_call 65; refine (KB _).mono ?_; rintro e w2 ⟨rfl, hb2⟩; have HB2 := hid13 (keepb hb2 HB1.out); clear hb2))
    exact bodyPost_ret (v := .tuple #[.int .i64 ((A : Int) + (B : Int)), .int .i64 0]) (by simp [results, Try.results57, go_sem]) rfl ⟨by push_cast; rfl, HB2.out⟩
  · rw [if_neg h, if_neg h]
    obtain ⟨ao, cc, rfl, hcc, hv'⟩ := id hv
    by_cases hn : i < 0
    · go_enter Try.func57, Try.ntmps57
      go_wp2_with fail
      exact bodyPost_ret (v := .tuple #[.int .i64 0, .int .i64 30]) (by simp [results, Try.results57, go_sem]) rfl ⟨rfl, Below.refl _ _⟩
    · have hge : (U.length : Int) ≤ i / 32 := by omega
      have hn0 : 0 ≤ i := by omega
      clear h
      go_enter Try.func57, Try.ntmps57
      go_wp2_with fail
      exact bodyPost_ret (v := .tuple #[.int .i64 0, .int .i64 30]) (by simp [results, Try.results57, go_sem]) rfl ⟨rfl, Below.refl _ _⟩
end Go.Proofs.Ytbgoclfifhdonaa
namespace Go.Proofs.Ytbgoclfifhdonaa
open Go.RowKit
set_option linter.unusedSimpArgs false
set_option linter.unusedVariables false

end Go.Proofs.Ytbgoclfifhdonaa
namespace Go.Proofs.Ytbgoclfifhdonaa
open Go.RowKit
set_option linter.unusedSimpArgs false
set_option linter.unusedVariables false

def At (w : World) (B : Nat) (x : BitVec 128) : Prop := w.cell? ⟨B, 0, none⟩ = some (.int .u64 (hI x)) ∧ w.cell? ⟨B, 1, none⟩ = some (.int .u64 (lI x)) ∧ w.frozen? ⟨B, 0, none⟩ = false ∧ w.frozen? ⟨B, 1, none⟩ = false ∧ B < w.heap.size
theorem At.below {w w' : World} {B : Nat} {x : BitVec 128} (h : At w B x) (hb : Below w.heap.size w w') : At w' B x := by
  obtain ⟨h0, h1, h2, h3, h4⟩ := h
  obtain ⟨hc, hf⟩ := bcell hb
  exact ⟨by rw [hc _ _ h4]; exact h0, by rw [hc _ _ h4]; exact h1, by rw [hf _ _ h4]; exact h2, by rw [hf _ _ h4]; exact h3, Nat.lt_of_lt_of_le h4 hb.size⟩
theorem At.set {w : World} {B : Nat} {x : BitVec 128} (y : BitVec 128) (h : At w B x) : At ((w.setCell ⟨B, 0, none⟩ (.int .u64 (hI y))).setCell ⟨B, 1, none⟩ (.int .u64 (lI y))) B y := by
  obtain ⟨h0, h1, h2, h3, h4⟩ := h
  refine ⟨?_, ?_, ?_, ?_, ?_⟩ <;> simp [go_sem, *]

end Go.Proofs.Ytbgoclfifhdonaa
namespace Go.Proofs.Ytbgoclfifhdonaa
open Go.RowKit
set_option linter.unusedSimpArgs false
set_option linter.unusedVariables false

end Go.Proofs.Ytbgoclfifhdonaa
namespace Go.Proofs.Ytbgoclfifhdonaa
open Go.RowKit
set_option linter.unusedSimpArgs false
set_option linter.unusedVariables false

end Go.Proofs.Ytbgoclfifhdonaa
namespace Go.Proofs.Ytbgoclfifhdonaa
open Go.RowKit
set_option linter.unusedSimpArgs false
set_option linter.unusedVariables false

theorem at_new (w : World) (B : Nat) (x : BitVec 128) (T : TypeId) (h : B = w.heap.size) : At (w.alloc (.cells #[.int .u64 (hI x), .int .u64 (lI x)] T)) B x := by
  subst h
  refine ⟨?_, ?_, ?_, ?_, ?_⟩ <;> simp [go_sem]

theorem bset2 {n C : Nat} {w W : World} (h : Below n w W) (hp : n ≤ C) (u v : Value) : Below n w ((W.setCell ⟨C, 0, none⟩ u).setCell ⟨C, 1, none⟩ v) := (h.setCell hp _).setCell hp _

end Go.Proofs.Ytbgoclfifhdonaa
namespace Go.Proofs.Ytbgoclfifhdonaa
open Go.RowKit
set_option linter.unusedSimpArgs false
set_option linter.unusedVariables false

def fam (F : Int) : Bool := decide (F = 32) || decide (F = 128)
theorem fam_ways (F : Int) (h : fam F = true) : F = 32 ∨ F = 128 := by unfold fam at h; simpa using h
theorem fam_no (F : Int) (h : fam F = false) : ¬ F = 32 ∧ ¬ F = 128 := by unfold fam at h; simpa using h
def lastV (F : Int) : BitVec 128 := if fam F = true then maskW F else 0#128
def lastE (F : Int) : Int := if fam F = true then 0 else 11
def rightE (F : Int) (x : BitVec 128) : Int := if fam F = true then (if x &&& maskW F = x then 0 else 6) else 11
end Go.Proofs.Ytbgoclfifhdonaa
namespace Go.Proofs.Ytbgoclfifhdonaa
open Go.RowKit
set_option linter.unusedSimpArgs false
set_option linter.unusedVariables false

set_option maxHeartbeats 1000000 in
theorem alast_any (F : Int) (w : World) :
    Calls Try.prog 43 #[.int .i64 F] w fun e w' => e = .returned (.tuple #[.agg #[.int .u64 (hI (lastV F)), .int .u64 (lI (lastV F))], .int .i64 (lastE F)]) ∧ Below w.heap.size w w' := by
  unfold lastV lastE
  cases h : fam F
  · rw [if_neg (by simp), if_neg (by simp), hI_zero, lI_zero]
    obtain ⟨h1, h2⟩ := fam_no F h
    have b1 : (F != 32) = true := by simp [h1]
    have b2 : (F != 128) = true := by simp [h2]
    clear h
    go_enter Try.func43, Try.ntmps43
    go_wp2
    exact bodyPost_ret (v := .tuple #[.agg #[.int .u64 0, .int .u64 0], .int .i64 11]) (by simp [results, Try.results43, go_sem]) rfl ⟨rfl, bl1 _ _⟩
  · rw [if_pos rfl, if_pos rfl]
    rcases fam_ways F h with rfl | rfl
    all_goals
      clear h
      go_enter Try.func43, Try.ntmps43
      go_wp2_with fail
      refine (mask_any _ _).mono ?_
      rintro e w1 ⟨rfl, hb1⟩
      have hZ := (at_new w w.heap.size 0#128 25 rfl).below hb1
      have kB := keepb hb1 (bl1 w _)
      obtain ⟨z0, z1, z2, z3, z4⟩ := hZ
      clear hb1
      go_wp2
      exact bodyPost_ret (by simp [results, Try.results43, go_sem, *]) rfl ⟨rfl, bset2 kB (Nat.le_refl _) _ _⟩

set_option maxHeartbeats 1000000 in
theorem aright_any (F : Int) (x : BitVec 128) (w : World) :
    Calls Try.prog 29 #[.int .i64 F, .agg #[.int .u64 (hI x), .int .u64 (lI x)]] w fun e w' => e = .returned (.int .i64 (rightE F x)) ∧ Below w.heap.size w w' := by
  have KL := fun w => alast_any F w
  unfold lastV lastE at KL
  unfold rightE
  cases h : fam F
  · rw [if_neg (by simp)]
    rw [h, if_neg (by simp), if_neg (by simp), hI_zero, lI_zero] at KL
    clear h
    go_enter Try.func29, Try.ntmps29
    go_wp2_with fail
    refine (KL _).mono ?_
    rintro e w1 ⟨rfl, hb1⟩
    have kB := keepb hb1 (bl1 w _)
    clear hb1 KL
    go_wp2
    go_ret
    exact ⟨rfl, kB.alloc (by have := kB.size; omega) _⟩
  · rw [if_pos rfl]
    rw [h, if_pos rfl, if_pos rfl] at KL
    clear h
    generalize maskW F = m at *
    have KA := fun w => and_any x m w
    revert KA
    generalize x &&& m = y
    intro KA
    have fin : ∀ (v : Int), v = (if y = x then 0 else 6) → ((hI y == hI x) = true ∧ (lI y == lI x) = true ∧ v = 0 ∨ (hI y == hI x) = false ∧ v = 6 ∨ (hI y == hI x) = true ∧ (lI y == lI x) = false ∧ v = 6) := by
      intro v hv
      by_cases e : y = x
      · rw [if_pos e] at hv
        exact Or.inl ⟨by simp [e], by simp [e], hv⟩
      · rw [if_neg e] at hv
        by_cases e1 : hI y = hI x
        · exact Or.inr (Or.inr ⟨by simp [e1], by simp; exact fun e2 => e (eq_ints e1 e2), hv⟩)
        · exact Or.inr (Or.inl ⟨by simp [e1], hv⟩)
    generalize (if y = x then (0 : Int) else 6) = v at *
    rcases fin v rfl with ⟨q1, q2, rfl⟩ | ⟨q1, rfl⟩ | ⟨q1, q2, rfl⟩
    all_goals
      clear fin
      go_enter Try.func29, Try.ntmps29
      go_wp2_with fail
      refine (KL _).mono ?_
      rintro e w1 ⟨rfl, hb1⟩
      have kB := keepb hb1 (bl1 w _)
      have x0 : (w1.alloc (.cells #[.int .u64 (hI m), .int .u64 (lI m)] 25)).cell? ⟨w.heap.size, 0, none⟩ = some (.int .u64 (hI x)) := keepc (bl1 _ _) (keepc hb1 (by simp [go_sem]))
      have x1 : (w1.alloc (.cells #[.int .u64 (hI m), .int .u64 (lI m)] 25)).cell? ⟨w.heap.size, 1, none⟩ = some (.int .u64 (lI x)) := keepc (bl1 _ _) (keepc hb1 (by simp [go_sem]))
      have kB2 := (kB.alloc (by have := kB.size; omega) (.cells #[.int .u64 (hI m), .int .u64 (lI m)] 25)).drew
      clear hb1 KL kB
      go_wp2_with fail
      go_region_held3 (fun w' => w'.cell? ⟨w.heap.size, 0, none⟩ = some (.int .u64 (hI x)) ∧ w'.cell? ⟨w.heap.size, 1, none⟩ = some (.int .u64 (lI x)) ∧ w'.cell? ⟨w1.heap.size, 0, none⟩ = some (.int .u64 (hI m)) ∧ w'.cell? ⟨w1.heap.size, 1, none⟩ = some (.int .u64 (lI m)) ∧ Below w.heap.size w w')
        (first
          | (obtain ⟨k1, k2, k3, k4, k9⟩ := ‹_ ∧ _›; exact ⟨keepc hb3 k1, keepc hb3 k2, keepc hb3 k3, keepc hb3 k4, keepb hb3 k9⟩)
          | exact ⟨x0, x1, by simp [go_sem], by simp [go_sem], kB2⟩)
        (first
          | (go_at_call 44; refine (KA _).mono ?_; rintro e w3 ⟨rfl, hb3⟩))
      obtain ⟨-, -, -, -, kB3⟩ := ‹_ ∧ _›
      go_wp2
      go_ret
      exact ⟨rfl, kB3⟩
end Go.Proofs.Ytbgoclfifhdonaa
namespace Go.Proofs.Ytbgoclfifhdonaa
open Go.RowKit
set_option linter.unusedSimpArgs false
set_option linter.unusedVariables false

structure Mc where
  pl : Int
  en : Bool
  hop : Int
  err : Int
  st : Int
  ex : Int
  ix : Int
  bt : Int
  hb : Int
  hn : Int
def mcA (F : Int) (vc : Value) (x : BitVec 128) (m : Mc) : Array Value := #[.int .i64 F, vc, .int .u64 (hI x), .int .u64 (lI x), .int .i64 m.pl, .bool m.en, .int .i64 m.hop, .int .i64 m.err, .int .i64 m.st, .int .i64 m.ex, .int .i64 m.ix, .int .i64 m.bt, .int .i64 m.hb, .int .i64 m.hn]
def MV (w : World) (B : Nat) (F : Int) (vc : Value) (x : BitVec 128) (m : Mc) : Prop := w.heap[B]? = some (.cells (mcA F vc x m) 50)
structure KM (B : Nat) (w w' : World) : Prop where
  lo : Below B w w'
  ot : KX (· = B) w w'
theorem KM.refl (B : Nat) (w : World) : KM B w w := ⟨Below.refl _ _, KX.refl _ _⟩
theorem KM.trans {B : Nat} {a b c : World} (h : KM B a b) (g : KM B b c) : KM B a c := ⟨h.lo.trans g.lo, h.ot.trans g.ot⟩
theorem KM.below {B : Nat} {a b c : World} (h : KM B a b) (hB : B < a.heap.size) (g : Below b.heap.size b c) : KM B a c := ⟨h.lo.trans (g.mono (by have := h.ot.1; omega)), h.ot.below g⟩
theorem KM.set {B o : Nat} {a b : World} (h : KM B a b) (u : Value) : KM B a (b.setCell ⟨B, o, none⟩ u) := ⟨h.lo.setCell (p := ⟨B, o, none⟩) (Nat.le_refl _) u, h.ot.set B o u (.inl rfl)⟩
theorem KM.setN {B N o : Nat} {a b : World} (h : KM B a b) (hB : B < a.heap.size) (hN : a.heap.size ≤ N) (u : Value) : KM B a (b.setCell ⟨N, o, none⟩ u) := ⟨h.lo.setCell (p := ⟨N, o, none⟩) (show B ≤ N by omega) u, h.ot.set N o u (.inr hN)⟩
theorem MV.below {w w' : World} {B : Nat} {F : Int} {vc : Value} {x : BitVec 128} {m : Mc} (h : MV w B F vc x m) (hb : Below w.heap.size w w') : MV w' B F vc x m := (hb.block B (lt_16 h)).trans h
theorem MV.lt {w : World} {B : Nat} {F : Int} {vc : Value} {x : BitVec 128} {m : Mc} (h : MV w B F vc x m) : B < w.heap.size := lt_16 h
theorem MV.fr {w : World} {B : Nat} {F : Int} {vc : Value} {x : BitVec 128} {m : Mc} (h : MV w B F vc x m) (j : Nat) : w.frozen? ⟨B, j, none⟩ = false := fr_16 h
theorem MV.cl {w : World} {B : Nat} {F : Int} {vc : Value} {x : BitVec 128} {m : Mc} (h : MV w B F vc x m) (j : Nat) (u : Value) (hj : (mcA F vc x m)[j]? = some u) : w.cell? ⟨B, j, none⟩ = some u := at_16 h j u hj
theorem MV.st {w : World} {B : Nat} {F : Int} {vc : Value} {x : BitVec 128} {m m' : Mc} (h : MV w B F vc x m) (j : Nat) (u : Value) (hj : (mcA F vc x m).setIfInBounds j u = mcA F vc x m') : MV (w.setCell ⟨B, j, none⟩ u) B F vc x m' := by
  unfold MV; rw [← hj]; exact set_16 h u
theorem MV.c0 {w : World} {B : Nat} {F : Int} {vc : Value} {x : BitVec 128} {m : Mc} (h : MV w B F vc x m) : w.cell? ⟨B, 0, none⟩ = some (.int .i64 F) := h.cl 0 _ rfl
theorem MV.c1 {w : World} {B : Nat} {F : Int} {vc : Value} {x : BitVec 128} {m : Mc} (h : MV w B F vc x m) : w.cell? ⟨B, 1, none⟩ = some (vc) := h.cl 1 _ rfl
theorem MV.c2 {w : World} {B : Nat} {F : Int} {vc : Value} {x : BitVec 128} {m : Mc} (h : MV w B F vc x m) : w.cell? ⟨B, 2, none⟩ = some (.int .u64 (hI x)) := h.cl 2 _ rfl
theorem MV.c3 {w : World} {B : Nat} {F : Int} {vc : Value} {x : BitVec 128} {m : Mc} (h : MV w B F vc x m) : w.cell? ⟨B, 3, none⟩ = some (.int .u64 (lI x)) := h.cl 3 _ rfl
theorem MV.c4 {w : World} {B : Nat} {F : Int} {vc : Value} {x : BitVec 128} {m : Mc} (h : MV w B F vc x m) : w.cell? ⟨B, 4, none⟩ = some (.int .i64 m.pl) := h.cl 4 _ rfl
theorem MV.c5 {w : World} {B : Nat} {F : Int} {vc : Value} {x : BitVec 128} {m : Mc} (h : MV w B F vc x m) : w.cell? ⟨B, 5, none⟩ = some (.bool m.en) := h.cl 5 _ rfl
theorem MV.c6 {w : World} {B : Nat} {F : Int} {vc : Value} {x : BitVec 128} {m : Mc} (h : MV w B F vc x m) : w.cell? ⟨B, 6, none⟩ = some (.int .i64 m.hop) := h.cl 6 _ rfl
theorem MV.c7 {w : World} {B : Nat} {F : Int} {vc : Value} {x : BitVec 128} {m : Mc} (h : MV w B F vc x m) : w.cell? ⟨B, 7, none⟩ = some (.int .i64 m.err) := h.cl 7 _ rfl
theorem MV.c8 {w : World} {B : Nat} {F : Int} {vc : Value} {x : BitVec 128} {m : Mc} (h : MV w B F vc x m) : w.cell? ⟨B, 8, none⟩ = some (.int .i64 m.st) := h.cl 8 _ rfl
theorem MV.c9 {w : World} {B : Nat} {F : Int} {vc : Value} {x : BitVec 128} {m : Mc} (h : MV w B F vc x m) : w.cell? ⟨B, 9, none⟩ = some (.int .i64 m.ex) := h.cl 9 _ rfl
theorem MV.c10 {w : World} {B : Nat} {F : Int} {vc : Value} {x : BitVec 128} {m : Mc} (h : MV w B F vc x m) : w.cell? ⟨B, 10, none⟩ = some (.int .i64 m.ix) := h.cl 10 _ rfl
theorem MV.c11 {w : World} {B : Nat} {F : Int} {vc : Value} {x : BitVec 128} {m : Mc} (h : MV w B F vc x m) : w.cell? ⟨B, 11, none⟩ = some (.int .i64 m.bt) := h.cl 11 _ rfl
theorem MV.c12 {w : World} {B : Nat} {F : Int} {vc : Value} {x : BitVec 128} {m : Mc} (h : MV w B F vc x m) : w.cell? ⟨B, 12, none⟩ = some (.int .i64 m.hb) := h.cl 12 _ rfl
theorem MV.c13 {w : World} {B : Nat} {F : Int} {vc : Value} {x : BitVec 128} {m : Mc} (h : MV w B F vc x m) : w.cell? ⟨B, 13, none⟩ = some (.int .i64 m.hn) := h.cl 13 _ rfl
theorem MV.s4 {w : World} {B : Nat} {F : Int} {vc : Value} {x : BitVec 128} {m : Mc} (h : MV w B F vc x m) (v : Int) : MV (w.setCell ⟨B, 4, none⟩ (.int .i64 v)) B F vc x { m with pl := v } := h.st 4 _ rfl
theorem MV.s6 {w : World} {B : Nat} {F : Int} {vc : Value} {x : BitVec 128} {m : Mc} (h : MV w B F vc x m) (v : Int) : MV (w.setCell ⟨B, 6, none⟩ (.int .i64 v)) B F vc x { m with hop := v } := h.st 6 _ rfl
theorem MV.s7 {w : World} {B : Nat} {F : Int} {vc : Value} {x : BitVec 128} {m : Mc} (h : MV w B F vc x m) (v : Int) : MV (w.setCell ⟨B, 7, none⟩ (.int .i64 v)) B F vc x { m with err := v } := h.st 7 _ rfl
theorem MV.s8 {w : World} {B : Nat} {F : Int} {vc : Value} {x : BitVec 128} {m : Mc} (h : MV w B F vc x m) (v : Int) : MV (w.setCell ⟨B, 8, none⟩ (.int .i64 v)) B F vc x { m with st := v } := h.st 8 _ rfl
theorem MV.s9 {w : World} {B : Nat} {F : Int} {vc : Value} {x : BitVec 128} {m : Mc} (h : MV w B F vc x m) (v : Int) : MV (w.setCell ⟨B, 9, none⟩ (.int .i64 v)) B F vc x { m with ex := v } := h.st 9 _ rfl
theorem MV.s10 {w : World} {B : Nat} {F : Int} {vc : Value} {x : BitVec 128} {m : Mc} (h : MV w B F vc x m) (v : Int) : MV (w.setCell ⟨B, 10, none⟩ (.int .i64 v)) B F vc x { m with ix := v } := h.st 10 _ rfl
theorem MV.s11 {w : World} {B : Nat} {F : Int} {vc : Value} {x : BitVec 128} {m : Mc} (h : MV w B F vc x m) (v : Int) : MV (w.setCell ⟨B, 11, none⟩ (.int .i64 v)) B F vc x { m with bt := v } := h.st 11 _ rfl
theorem MV.s12 {w : World} {B : Nat} {F : Int} {vc : Value} {x : BitVec 128} {m : Mc} (h : MV w B F vc x m) (v : Int) : MV (w.setCell ⟨B, 12, none⟩ (.int .i64 v)) B F vc x { m with hb := v } := h.st 12 _ rfl
theorem MV.s13 {w : World} {B : Nat} {F : Int} {vc : Value} {x : BitVec 128} {m : Mc} (h : MV w B F vc x m) (v : Int) : MV (w.setCell ⟨B, 13, none⟩ (.int .i64 v)) B F vc x { m with hn := v } := h.st 13 _ rfl
theorem MV.s5 {w : World} {B : Nat} {F : Int} {vc : Value} {x : BitVec 128} {m : Mc} (h : MV w B F vc x m) (v : Bool) : MV (w.setCell ⟨B, 5, none⟩ (.bool v)) B F vc x { m with en := v } := h.st 5 _ rfl
theorem MV.far {w : World} {B : Nat} {F : Int} {vc : Value} {x : BitVec 128} {m : Mc} (h : MV w B F vc x m) {N o : Nat} (hN : B ≠ N) (u : Value) : MV (w.setCell ⟨N, o, none⟩ u) B F vc x m := (far_16 hN).trans h

set_option maxHeartbeats 2000000 in
theorem end19 (B : Nat) (F : Int) (vc : Value) (x : BitVec 128) (m : Mc) (e : Int) (w : World) (h : MV w B F vc x m) :
    Calls Try.prog 22 #[.pointer (some ⟨B, 0, none⟩), .int .i64 e] w fun r w' => r = .returned (.tuple #[]) ∧ MV w' B F vc x { m with en := true, err := e } ∧ KM B w w' := by
  have HM := hid13 h
  have c5 := h.c5
  have f5 := h.fr 5
  have c7 := h.c7
  have f7 := h.fr 7
  clear h
  go_enter Try.func22, Try.ntmps22
  go_wp2
  exact bodyPost_end (v := .tuple #[]) (by simp [results, Try.results22, go_sem]) rfl ⟨rfl, (HM.out.s5 true).s7 e, ((KM.refl B w).set _).set _⟩
set_option maxHeartbeats 2000000 in
theorem moveTo19 (B : Nat) (F : Int) (vc : Value) (x : BitVec 128) (m : Mc) (a b c : Int) (w : World) (h : MV w B F vc x m) :
    Calls Try.prog 48 #[.pointer (some ⟨B, 0, none⟩), .int .i64 a, .agg #[.int .i64 b, .int .i64 c]] w fun r w' => r = .returned (.tuple #[]) ∧ MV w' B F vc x { m with pl := a, hb := b, hn := c } ∧ KM B w w' := by
  have q1 := bl1 w (.cells #[.int .i64 b, .int .i64 c] 48)
  have HM := hid13 (h.below q1)
  have HB := hid13 h.lt
  have HQ := hid13 q1
  have hne : ¬ w.heap.size = B := by have := h.lt; omega
  have hne2 : ¬ B = w.heap.size := by have := h.lt; omega
  have c4 := HM.out.c4
  have f4 := HM.out.fr 4
  have c12 := HM.out.c12
  have f12 := HM.out.fr 12
  have c13 := HM.out.c13
  have f13 := HM.out.fr 13
  clear h q1
  go_enter Try.func48, Try.ntmps48
  go_wp2
  exact bodyPost_end (v := .tuple #[]) (by simp [results, Try.results48, go_sem]) rfl ⟨rfl, ((HM.out.s4 a).s12 b).s13 c, ((((KM.refl B w).below HB.out HQ.out).set _).set _).set _⟩
end Go.Proofs.Ytbgoclfifhdonaa
namespace Go.Proofs.Ytbgoclfifhdonaa
open Go.RowKit
set_option linter.unusedSimpArgs false
set_option linter.unusedVariables false

def readW (x : BitVec 128) (f n : Int) : BitVec 128 := (x <<< f.toNat) >>> (128 - n).toNat
end Go.Proofs.Ytbgoclfifhdonaa
namespace Go.Proofs.Ytbgoclfifhdonaa
open Go.RowKit
set_option linter.unusedSimpArgs false
set_option linter.unusedVariables false

def fdN (x : BitVec 128) (f n : Int) : Int := lI (readW x f n)
def exM (F : Int) (x : BitVec 128) (m : Mc) (n : Int) : Mc := if n > F - m.bt then m else { m with ex := m.ex + 1, bt := m.bt + n, pl := m.pl + 1, hb := n, hn := fdN x m.bt n }
def exE (F : Int) (m : Mc) (n : Int) : Int := if n > F - m.bt then 27 else 0
def ixM (m : Mc) (n : Int) (U : List (BitVec 32)) (z : Int) : Mc := if m.hb = n ∧ rkE U m.hn = 0 then { m with ix := m.ix + 1, pl := m.pl + z + (rkN U m.hn : Int) - 1, hb := 0, hn := 0 } else m
def ixE (m : Mc) (n : Int) (U : List (BitVec 32)) : Int := if m.hb = n then rkE U m.hn else 25
theorem fdN_lo (x : BitVec 128) (f n : Int) : 0 ≤ fdN x f n := lI_lo _
theorem fdN_hi (x : BitVec 128) (f n : Int) (h0 : 0 ≤ n) (h1 : n ≤ 24) : fdN x f n < 2 ^ n.toNat := by
  unfold fdN readW
  obtain ⟨k, rfl⟩ : ∃ k : Nat, n = (k : Int) := ⟨n.toNat, by omega⟩
  have e : (128 - (k : Int)).toNat = 128 - k := by omega
  rw [e, Int.toNat_natCast, lIN]
  generalize x <<< f.toNat = y
  have h : (y >>> (128 - k)).toNat < 2 ^ k := by
    rw [BitVec.toNat_ushiftRight, Nat.shiftRight_eq_div_pow, Nat.div_lt_iff_lt_mul (Nat.two_pow_pos _), ← Nat.pow_add, show k + (128 - k) = 128 by omega]
    exact y.isLt
  have h2 : (y >>> (128 - k)).toNat % 18446744073709551616 ≤ (y >>> (128 - k)).toNat := Nat.mod_le _ _
  have h3 : (((2 ^ k : Nat)) : Int) = 2 ^ k := by norm_cast
  rw [← h3]
  omega
end Go.Proofs.Ytbgoclfifhdonaa
namespace Go.Proofs.Ytbgoclfifhdonaa
open Go.RowKit Go.Shelf
set_option linter.unusedSimpArgs false
set_option linter.unusedVariables false

section
variable {P : Program}
end
end Go.Proofs.Ytbgoclfifhdonaa
