/-
  Part 10 of the proof: 5 texts, one behind the other.
-/
import Derived.Test.YtbgoclfifhdonaaPart9
import Derived.Test.YtbgoclfifhdonaaPart2
import Derived.Test.YtbgoclfifhdonaaPart7
namespace Go.Proofs.Ytbgoclfifhdonaa
open Go.RowKit
set_option linter.unusedSimpArgs false
set_option linter.unusedVariables false

structure Rq where
  pl : Int
  tk : Int
  hb : Int
  hop : Int
  err : Int
  st : Int
  ex : Int
  ix : Int
  bt : Int
  en : Bool
def rqA (F : Int) (vc : Value) (x y : BitVec 128) (q : Rq) : Array Value := #[.int .i64 F, vc, .int .u64 (hI x), .int .u64 (lI x), .int .i64 q.pl, .int .i64 q.tk, .int .u64 (hI y), .int .u64 (lI y), .int .i64 q.hb, .int .i64 q.hop, .int .i64 q.err, .int .i64 q.st, .int .i64 q.ex, .int .i64 q.ix, .int .i64 q.bt, .bool q.en]
def RV (w : World) (B : Nat) (F : Int) (vc : Value) (x y : BitVec 128) (q : Rq) : Prop := w.heap[B]? = some (.cells (rqA F vc x y q) 38)
def rqO (m : Mc) : Rq := ⟨m.pl, m.bt, m.hb, m.hop, m.err, m.st, m.ex, m.ix, m.bt, m.en⟩
theorem RV.below {w w' : World} {B : Nat} {F : Int} {vc : Value} {x y : BitVec 128} {q : Rq} (h : RV w B F vc x y q) (hb : Below w.heap.size w w') : RV w' B F vc x y q := (hb.block B (lt_16 h)).trans h
theorem RV.lt {w : World} {B : Nat} {F : Int} {vc : Value} {x y : BitVec 128} {q : Rq} (h : RV w B F vc x y q) : B < w.heap.size := lt_16 h
theorem RV.fr {w : World} {B : Nat} {F : Int} {vc : Value} {x y : BitVec 128} {q : Rq} (h : RV w B F vc x y q) (j : Nat) : w.frozen? ⟨B, j, none⟩ = false := fr_16 h
theorem RV.far {w : World} {B : Nat} {F : Int} {vc : Value} {x y : BitVec 128} {q : Rq} (h : RV w B F vc x y q) {N o : Nat} (hN : B ≠ N) (u : Value) : RV (w.setCell ⟨N, o, none⟩ u) B F vc x y q := (far_16 hN).trans h
theorem RV.st0 {w : World} {B : Nat} {F : Int} {vc : Value} {x y y' : BitVec 128} {q q' : Rq} (h : RV w B F vc x y q) (j : Nat) (u : Value) (hj : (rqA F vc x y q).setIfInBounds j u = rqA F vc x y' q') : RV (w.setCell ⟨B, j, none⟩ u) B F vc x y' q' := by
  unfold RV; rw [← hj]; exact set_16 h u
theorem RV.c0 {w : World} {B : Nat} {F : Int} {vc : Value} {x y : BitVec 128} {q : Rq} (h : RV w B F vc x y q) : w.cell? ⟨B, 0, none⟩ = some (.int .i64 F) := at_16 h 0 _ rfl
theorem RV.c1 {w : World} {B : Nat} {F : Int} {vc : Value} {x y : BitVec 128} {q : Rq} (h : RV w B F vc x y q) : w.cell? ⟨B, 1, none⟩ = some (vc) := at_16 h 1 _ rfl
theorem RV.c2 {w : World} {B : Nat} {F : Int} {vc : Value} {x y : BitVec 128} {q : Rq} (h : RV w B F vc x y q) : w.cell? ⟨B, 2, none⟩ = some (.int .u64 (hI x)) := at_16 h 2 _ rfl
theorem RV.c3 {w : World} {B : Nat} {F : Int} {vc : Value} {x y : BitVec 128} {q : Rq} (h : RV w B F vc x y q) : w.cell? ⟨B, 3, none⟩ = some (.int .u64 (lI x)) := at_16 h 3 _ rfl
theorem RV.c4 {w : World} {B : Nat} {F : Int} {vc : Value} {x y : BitVec 128} {q : Rq} (h : RV w B F vc x y q) : w.cell? ⟨B, 4, none⟩ = some (.int .i64 q.pl) := at_16 h 4 _ rfl
theorem RV.c5 {w : World} {B : Nat} {F : Int} {vc : Value} {x y : BitVec 128} {q : Rq} (h : RV w B F vc x y q) : w.cell? ⟨B, 5, none⟩ = some (.int .i64 q.tk) := at_16 h 5 _ rfl
theorem RV.c6 {w : World} {B : Nat} {F : Int} {vc : Value} {x y : BitVec 128} {q : Rq} (h : RV w B F vc x y q) : w.cell? ⟨B, 6, none⟩ = some (.int .u64 (hI y)) := at_16 h 6 _ rfl
theorem RV.c7 {w : World} {B : Nat} {F : Int} {vc : Value} {x y : BitVec 128} {q : Rq} (h : RV w B F vc x y q) : w.cell? ⟨B, 7, none⟩ = some (.int .u64 (lI y)) := at_16 h 7 _ rfl
theorem RV.c8 {w : World} {B : Nat} {F : Int} {vc : Value} {x y : BitVec 128} {q : Rq} (h : RV w B F vc x y q) : w.cell? ⟨B, 8, none⟩ = some (.int .i64 q.hb) := at_16 h 8 _ rfl
theorem RV.c9 {w : World} {B : Nat} {F : Int} {vc : Value} {x y : BitVec 128} {q : Rq} (h : RV w B F vc x y q) : w.cell? ⟨B, 9, none⟩ = some (.int .i64 q.hop) := at_16 h 9 _ rfl
theorem RV.c10 {w : World} {B : Nat} {F : Int} {vc : Value} {x y : BitVec 128} {q : Rq} (h : RV w B F vc x y q) : w.cell? ⟨B, 10, none⟩ = some (.int .i64 q.err) := at_16 h 10 _ rfl
theorem RV.c11 {w : World} {B : Nat} {F : Int} {vc : Value} {x y : BitVec 128} {q : Rq} (h : RV w B F vc x y q) : w.cell? ⟨B, 11, none⟩ = some (.int .i64 q.st) := at_16 h 11 _ rfl
theorem RV.c12 {w : World} {B : Nat} {F : Int} {vc : Value} {x y : BitVec 128} {q : Rq} (h : RV w B F vc x y q) : w.cell? ⟨B, 12, none⟩ = some (.int .i64 q.ex) := at_16 h 12 _ rfl
theorem RV.c13 {w : World} {B : Nat} {F : Int} {vc : Value} {x y : BitVec 128} {q : Rq} (h : RV w B F vc x y q) : w.cell? ⟨B, 13, none⟩ = some (.int .i64 q.ix) := at_16 h 13 _ rfl
theorem RV.c14 {w : World} {B : Nat} {F : Int} {vc : Value} {x y : BitVec 128} {q : Rq} (h : RV w B F vc x y q) : w.cell? ⟨B, 14, none⟩ = some (.int .i64 q.bt) := at_16 h 14 _ rfl
theorem RV.c15 {w : World} {B : Nat} {F : Int} {vc : Value} {x y : BitVec 128} {q : Rq} (h : RV w B F vc x y q) : w.cell? ⟨B, 15, none⟩ = some (.bool q.en) := at_16 h 15 _ rfl
theorem RV.s4 {w : World} {B : Nat} {F : Int} {vc : Value} {x y : BitVec 128} {q : Rq} (h : RV w B F vc x y q) (v : Int) : RV (w.setCell ⟨B, 4, none⟩ (.int .i64 v)) B F vc x y { q with pl := v } := h.st0 4 _ rfl
theorem RV.s5 {w : World} {B : Nat} {F : Int} {vc : Value} {x y : BitVec 128} {q : Rq} (h : RV w B F vc x y q) (v : Int) : RV (w.setCell ⟨B, 5, none⟩ (.int .i64 v)) B F vc x y { q with tk := v } := h.st0 5 _ rfl
theorem RV.s8 {w : World} {B : Nat} {F : Int} {vc : Value} {x y : BitVec 128} {q : Rq} (h : RV w B F vc x y q) (v : Int) : RV (w.setCell ⟨B, 8, none⟩ (.int .i64 v)) B F vc x y { q with hb := v } := h.st0 8 _ rfl
theorem RV.s9 {w : World} {B : Nat} {F : Int} {vc : Value} {x y : BitVec 128} {q : Rq} (h : RV w B F vc x y q) (v : Int) : RV (w.setCell ⟨B, 9, none⟩ (.int .i64 v)) B F vc x y { q with hop := v } := h.st0 9 _ rfl
theorem RV.s10 {w : World} {B : Nat} {F : Int} {vc : Value} {x y : BitVec 128} {q : Rq} (h : RV w B F vc x y q) (v : Int) : RV (w.setCell ⟨B, 10, none⟩ (.int .i64 v)) B F vc x y { q with err := v } := h.st0 10 _ rfl
theorem RV.s11 {w : World} {B : Nat} {F : Int} {vc : Value} {x y : BitVec 128} {q : Rq} (h : RV w B F vc x y q) (v : Int) : RV (w.setCell ⟨B, 11, none⟩ (.int .i64 v)) B F vc x y { q with st := v } := h.st0 11 _ rfl
theorem RV.s12 {w : World} {B : Nat} {F : Int} {vc : Value} {x y : BitVec 128} {q : Rq} (h : RV w B F vc x y q) (v : Int) : RV (w.setCell ⟨B, 12, none⟩ (.int .i64 v)) B F vc x y { q with ex := v } := h.st0 12 _ rfl
theorem RV.s13 {w : World} {B : Nat} {F : Int} {vc : Value} {x y : BitVec 128} {q : Rq} (h : RV w B F vc x y q) (v : Int) : RV (w.setCell ⟨B, 13, none⟩ (.int .i64 v)) B F vc x y { q with ix := v } := h.st0 13 _ rfl
theorem RV.s14 {w : World} {B : Nat} {F : Int} {vc : Value} {x y : BitVec 128} {q : Rq} (h : RV w B F vc x y q) (v : Int) : RV (w.setCell ⟨B, 14, none⟩ (.int .i64 v)) B F vc x y { q with bt := v } := h.st0 14 _ rfl
theorem RV.s15 {w : World} {B : Nat} {F : Int} {vc : Value} {x y : BitVec 128} {q : Rq} (h : RV w B F vc x y q) (v : Bool) : RV (w.setCell ⟨B, 15, none⟩ (.bool v)) B F vc x y { q with en := v } := h.st0 15 _ rfl
theorem RV.sX {w : World} {B : Nat} {F : Int} {vc : Value} {x y : BitVec 128} {q : Rq} (h : RV w B F vc x y q) (z : BitVec 128) : RV ((w.setCell ⟨B, 6, none⟩ (.int .u64 (hI z))).setCell ⟨B, 7, none⟩ (.int .u64 (lI z))) B F vc x z q := by
  unfold RV; rw [set_16 (set_16 h _) _]; rfl
def DR (w : World) (B : Nat) (F : Int) (vc : Value) (x y : BitVec 128) (q : Rq) (W : World) : Prop := RV W B F vc x y q ∧ KM B w W
theorem DR.below {w W W' : World} {B : Nat} {F : Int} {vc : Value} {x y : BitVec 128} {q : Rq} (h : DR w B F vc x y q W) (hB : B < w.heap.size) (hb : Below W.heap.size W W') : DR w B F vc x y q W' := ⟨h.1.below hb, h.2.below hB hb⟩
theorem rk_ok19 {l : List Nat} {m : Mc} {F L : Int} (hm : MOk F L m) (h : dcE l m.pl = 0) (ho : (dcI l m.pl).op = 2) (hh : m.hb = (dcI l m.pl).n) : rkE (dcI l m.pl).m m.hn = 0 := by
  have h1 := dc_map19 h ho
  have h2 := mwN_max (dcI l m.pl).n.toNat (by have := hm.h1; omega)
  have h3 := hm.n1
  have h4 := hm.n0
  rw [hh] at h3
  have h5 : ((2 ^ (dcI l m.pl).n.toNat : Nat) : Int) = 2 ^ (dcI l m.pl).n.toNat := by norm_cast
  rw [← h5] at h3
  unfold rkE
  rw [if_pos]
  refine ⟨h4, ?_⟩
  rw [h1, h2]
  have : 2 ^ (dcI l m.pl).n.toNat ≤ 32 * max 1 (2 ^ (dcI l m.pl).n.toNat / 32) := by
    obtain ⟨k, hk⟩ : ∃ k, k = (dcI l m.pl).n.toNat := ⟨_, rfl⟩
    rw [← hk]
    by_cases q : k < 5
    · have : 2 ^ k ≤ 2 ^ 4 := Nat.pow_le_pow_right (by decide) (by omega)
      omega
    · have : 2 ^ k = 32 * 2 ^ (k - 5) := by rw [show (32 : Nat) = 2 ^ 5 from rfl, ← Nat.pow_add, show 5 + (k - 5) = k by omega]
      omega
  push_cast
  omega
set_option maxHeartbeats 2000000 in
theorem rfail19 (B : Nat) (F : Int) (vc : Value) (x y : BitVec 128) (q : Rq) (e : Int) (w : World) (h : RV w B F vc x y q) :
    Calls Try.prog 23 #[.pointer (some ⟨B, 0, none⟩), .int .i64 e] w fun r w' => r = .returned (.tuple #[]) ∧ RV w' B F vc x y { q with err := e, en := true } ∧ KM B w w' := by
  have HM := hid13 h
  have c10 := h.c10
  have f10 := h.fr 10
  have c15 := h.c15
  have f15 := h.fr 15
  clear h
  go_enter Try.func23, Try.ntmps23
  go_wp2
  exact bodyPost_end (v := .tuple #[]) (by simp [results, Try.results23, go_sem]) rfl ⟨rfl, (HM.out.s10 e).s15 true, ((KM.refl B w).set _).set _⟩
end Go.Proofs.Ytbgoclfifhdonaa
namespace Go.Proofs.Ytbgoclfifhdonaa
open Go.RowKit
set_option linter.unusedSimpArgs false
set_option linter.unusedVariables false

theorem rmapWords_any (n : Nat) (h : n ≤ 24) (w : World) :
    Calls Try.prog 37 #[.int .i64 (n : Int)] w fun e w' => e = .returned (.int .i64 (mwN n : Int)) ∧ w' = w := by
  by_cases c : n < 5
  · have c1 : (n : Int) < 5 := by omega
    have e : Hid (mwN n = 1) := by show _ = _; unfold mwN; rw [if_pos c]
    clear c h
    go_enter Try.func37, Try.ntmps37
    go_wp2
    go_ret
    exact ⟨by rw [e.out]; rfl, rfl⟩
  · have c1 : ¬ (n : Int) < 5 := by omega
    obtain ⟨j, hj⟩ : ∃ j, j = n - 5 := ⟨_, rfl⟩
    have hs := sh64 j (by omega)
    obtain ⟨P, hP⟩ : ∃ P : Nat, P = 2 ^ j := ⟨_, rfl⟩
    rw [← hP] at hs
    have e : Hid (mwN n = P) := by show _ = _; unfold mwN; rw [if_neg c, hP, hj]
    have hw : IntKind.i64.wrap ((n : Int) - 5) = (j : Int) := by rw [IntKind.wrap_i64]; omega
    clear c h hP hj
    go_enter Try.func37, Try.ntmps37
    go_wp2
    go_ret
    exact ⟨by rw [e.out]; rfl, rfl⟩
set_option maxRecDepth 100000 in
set_option maxHeartbeats 4000000 in
theorem risMap_any (v : Value) (m : List (BitVec 32)) (n : Nat) (w : World) (hv : RwX cU w v m) (h : n ≤ 24) :
    Calls Try.prog 38 #[v, .int .i64 (n : Int)] w fun e w' => e = .returned (.bool (isMapB m n)) ∧ Below w.heap.size w w' := by
  have KM := fun w => rmapWords_any n h w
  obtain ⟨ao, c, rfl, hc, hr⟩ := hv
  have hs1 := sh64u n h
  by_cases h1 : m.length = mwN n
  · obtain ⟨x, t, rfl⟩ : ∃ x t, m = x :: t := by
      cases m with
      | nil => have := mwN_lo n; simp at h1; omega
      | cons x t => exact ⟨x, t, rfl⟩
    obtain ⟨b, off, rfl, hcell⟩ : ∃ b off, ao = some ⟨b, off, none⟩ ∧ ∀ j y, (x :: t)[j]? = some y → w.cell? ⟨b, off + j, none⟩ = some (cU y) := by
      rcases hr with h | h
      · cases h
      · exact h
    have c0 : w.cell? ⟨b, off, none⟩ = some (.int .u32 (uI x)) := hcell 0 x rfl
    have HE : Hid (isMapB (x :: t) n = topB x (2 ^ n)) := by show _ = _; rw [isMapB_cons, decide_eq_true h1, Bool.true_and]
    obtain ⟨L, hL⟩ : ∃ L, L = (x :: t).length := ⟨_, rfl⟩
    rw [← hL] at h1 ⊢
    have hL0 : (0 : Int) < (L : Int) := by rw [hL]; simp
    rw [← h1] at KM
    obtain ⟨P, hP⟩ : ∃ P : Nat, P = 2 ^ n := ⟨_, rfl⟩
    rw [← hP] at hs1 HE
    have hs2 := sh32u x P
    have hh := hi32 x
    have HP : Hid (5 ≤ n → x <<< P = 0#32) := by
      intro h5
      refine BitVec.shiftLeft_eq_zero ?_
      rw [hP]
      have := Nat.pow_le_pow_right (n := 2) (by decide) h5
      exact this
    clear hcell hr h1 hL hc h hP
    unfold topB at HE
    cases g : x.getLsbD 31 with
    | true =>
      rw [g] at hh HE
      replace HE : Hid (isMapB (x :: t) n = (x <<< P == 0#32)) := HE
      simp only [if_true] at hh
      clear g
      by_cases h5 : 5 ≤ n
      · have HE2 : Hid (isMapB (x :: t) n = true) := by show _ = _; rw [HE.out, HP.out h5]; rfl
        have h5' : (5 : Int) ≤ (n : Int) := by omega
        clear h5 HE HP
        go_enter Try.func38, Try.ntmps38
        go_wp2_with (go_at_call 37; refine (KM _).mono ?_; rintro e w1 ⟨rfl, hw1⟩; replace hw1 := hw1.symm; subst hw1)
        go_quiet (fail)
        have HB : Hid (Below w.heap.size w (w.drewN nq)) := below_drewN (Below.refl _ _) nq
        go_wp2
        go_ret
        exact ⟨by rw [HE2.out]; rfl, HB.out⟩
      · have h5' : decide ((5 : Int) ≤ (n : Int)) = false := decide_eq_false (by omega)
        clear h5 HP
        by_cases hz : x <<< P = 0#32
        · have HE2 : Hid (isMapB (x :: t) n = true) := by show _ = _; rw [HE.out, hz]; rfl
          rw [hz, uI_zero] at hs2
          clear hz HE
          go_enter Try.func38, Try.ntmps38
          go_wp2_with (go_at_call 37; refine (KM _).mono ?_; rintro e w1 ⟨rfl, hw1⟩; replace hw1 := hw1.symm; subst hw1)
          go_quiet (fail)
          have HB : Hid (Below w.heap.size w (w.drewN nq)) := below_drewN (Below.refl _ _) nq
          go_wp2
          go_ret
          exact ⟨by rw [HE2.out]; rfl, HB.out⟩
        · have HE2 : Hid (isMapB (x :: t) n = false) := by show _ = _; rw [HE.out]; simpa using hz
          obtain ⟨Y, hY⟩ : ∃ Y, Y = uI (x <<< P) := ⟨_, rfl⟩
          have hY0 : (Y == 0) = false := by
            rw [hY]; simp only [beq_eq_false_iff_ne]
            exact fun e => hz ((uI_is0 _).1 e)
          rw [← hY] at hs2
          clear hz hY HE
          go_enter Try.func38, Try.ntmps38
          go_wp2_with (go_at_call 37; refine (KM _).mono ?_; rintro e w1 ⟨rfl, hw1⟩; replace hw1 := hw1.symm; subst hw1)
          go_quiet (fail)
          have HB : Hid (Below w.heap.size w (w.drewN nq)) := below_drewN (Below.refl _ _) nq
          go_wp2
          go_ret
          exact ⟨by rw [HE2.out]; rfl, HB.out⟩
    | false =>
      rw [g] at hh HE
      replace hh : uI x / 2147483648 = 0 := hh
      replace HE : Hid (isMapB (x :: t) n = false) := HE
      clear hs2 hs1 g HP
      go_enter Try.func38, Try.ntmps38
      go_wp2_with (go_at_call 37; refine (KM _).mono ?_; rintro e w1 ⟨rfl, hw1⟩; replace hw1 := hw1.symm; subst hw1)
      go_ret
      exact ⟨by rw [HE.out]; rfl, Below.refl _ _⟩
  · have HE : Hid (isMapB m n = false) := by show _ = _; unfold isMapB; rw [decide_eq_false h1]; rfl
    obtain ⟨L, hL⟩ : ∃ L, L = mwN n := ⟨_, rfl⟩
    rw [← hL] at KM h1
    have h1' : (((m.length : Nat) : Int) != (L : Int)) = true := by simp; omega
    clear hs1 hr hL h1
    go_enter Try.func38, Try.ntmps38
    go_wp2_with (go_at_call 37; refine (KM _).mono ?_; rintro e w1 ⟨rfl, hw1⟩; replace hw1 := hw1.symm; subst hw1)
    go_ret
    exact ⟨by rw [HE.out]; rfl, Below.refl _ _⟩
end Go.Proofs.Ytbgoclfifhdonaa
namespace Go.Proofs.Ytbgoclfifhdonaa
open Go.RowKit
set_option linter.unusedSimpArgs false
set_option linter.unusedVariables false

end Go.Proofs.Ytbgoclfifhdonaa
namespace Go.Proofs.Ytbgoclfifhdonaa
open Go.RowKit
set_option linter.unusedSimpArgs false
set_option linter.unusedVariables false

theorem and24 (x : BitVec 32) : bits .and .u32 (uI x) 16777215 = uI x % 16777216 := by
  have e : (16777215 : Int) = uI 16777215#32 := lit32 16777215 (by decide)
  have h : bits .and .u32 (uI x) (uI 16777215#32) = uI x % 16777216 := by
    rw [and32, uI_eq, uI_eq, BitVec.toNat_and]
    have : (16777215#32).toNat = 2 ^ 24 - 1 := by decide
    rw [this, Nat.and_two_pow_sub_one_eq_mod]
    have : (2 : Nat) ^ 24 = 16777216 := by decide
    omega
  rw [← e] at h
  exact h
theorem dc_err {l : List Nat} {a z : Int} (h : dcE l a = z) (hz : z ≠ 0) : dcI l a = ⟨0, 0, []⟩ ∧ dcZ l a = 0 ∧ dcE l a = z := by
  have hne : ¬ dcE l a = 0 := by rw [h]; exact hz
  exact ⟨by unfold dcI; rw [if_neg hne], by unfold dcZ; rw [if_neg hne], h⟩
theorem dc_ok {l : List Nat} {k : Nat} {m : List (BitVec 32)} (hk : k < l.length / 4) (h : rdP l k = (m, 0)) : dcI l (k : Int) = ⟨insO l k, insN l k, m⟩ ∧ dcZ l (k : Int) = 1 + (m.length : Int) ∧ dcE l (k : Int) = 0 := by
  have hs : stB l.length (k : Int) 1 = true := by unfold stB; simp; omega
  have hE : dcE l (k : Int) = 0 := by unfold dcE; rw [if_pos hs, Int.toNat_natCast, h]
  have hI : dcI l (k : Int) = ⟨insO l k, insN l k, m⟩ := by unfold dcI; rw [if_pos hE, Int.toNat_natCast, h]
  exact ⟨hI, by unfold dcZ; rw [if_pos hE, hI], hE⟩
theorem dc_bad {l : List Nat} {k : Nat} {m : List (BitVec 32)} {z : Int} (hk : k < l.length / 4) (h : rdP l k = (m, z)) (hz : z ≠ 0) : dcI l (k : Int) = ⟨0, 0, []⟩ ∧ dcZ l (k : Int) = 0 ∧ dcE l (k : Int) = z := by
  have hs : stB l.length (k : Int) 1 = true := by unfold stB; simp; omega
  exact dc_err (by unfold dcE; rw [if_pos hs, Int.toNat_natCast, h]) hz
set_option maxRecDepth 100000 in
set_option maxHeartbeats 8000000 in
theorem rdecode_out (v : Value) (l : List Nat) (a : Int) (w : World) (hv : RwX cB w v l) (hl : l.length ≤ 100000) (hx : ∀ b ∈ l, b < 256) (ha : stB l.length a 1 = false) :
    Calls Try.prog 26 #[v, .int .i64 a] w fun e w' => ∃ v', e = .returned (.tuple #[insV (dcI l a) v', .int .i64 (dcZ l a), .int .i64 (dcE l a)]) ∧ w'.ownsRow w.heap.size 71 1 v' (dcI l a).m.length ((dcI l a).m.map cU) ∧ Below w.heap.size w w' := by
  have hE : dcE l a = 30 := by unfold dcE; rw [if_neg (by rw [ha]; decide)]
  have HE := hid13 (dc_err hE (by decide))
  have hs : ¬ (0 ≤ a ∧ 4 * a + 4 ≤ (l.length : Int)) := by
    unfold stB at ha
    intro q
    have : (decide (0 ≤ a) && decide (a ≤ (l.length : Int) / 4 - 1)) = true := by simp; omega
    rw [this] at ha; cases ha
  have fin : ∀ (W : World) (hb : Below w.heap.size w W), ∃ v', (Ending.returned (.tuple #[.agg #[.int .i64 0, .int .i64 0, .slice none 0 0], .int .i64 0, .int .i64 30])) = .returned (.tuple #[insV (dcI l a) v', .int .i64 (dcZ l a), .int .i64 (dcE l a)]) ∧ W.ownsRow w.heap.size 71 1 v' (dcI l a).m.length ((dcI l a).m.map cU) ∧ Below w.heap.size w W := by
    intro W hb
    refine ⟨.slice none 0 0, ?_, ?_, hb⟩
    · rw [HE.out.1, HE.out.2.1, HE.out.2.2]; rfl
    · rw [HE.out.1]; exact World.ownsRow_nil _ _ _ _
  have HFin := hid13 fin
  obtain ⟨ao, cc, hvf, -⟩ := id hv
  by_cases d0 : a < 0
  · subst hvf
    clear hs ha hE fin hv
    go_enter Try.func26, Try.ntmps26
    go_wp2
    exact bodyPost_ret (v := .tuple #[.agg #[.int .i64 0, .int .i64 0, .slice none 0 0], .int .i64 0, .int .i64 30]) (by simp [results, Try.results26, go_sem]) rfl (HFin.out _ (bl1 _ _))
  by_cases d1 : (l.length : Int) ≤ a
  · subst hvf
    clear hs ha hE fin hv
    go_enter Try.func26, Try.ntmps26
    go_wp2
    exact bodyPost_ret (v := .tuple #[.agg #[.int .i64 0, .int .i64 0, .slice none 0 0], .int .i64 0, .int .i64 30]) (by simp [results, Try.results26, go_sem]) rfl (HFin.out _ (bl1 _ _))
  have q1 := bl1 w (.cells #[.int .i64 0, .int .i64 0, .slice none 0 0] 56)
  have K1 := rget13 v l (4 * a) 4 4 rfl (by decide) (by decide) _ (hv.below q1) (by omega) hx (by omega) (by omega)
  have hno : ¬ (0 ≤ 4 * a ∧ 4 * a ≤ (l.length : Int) - ((4 : Nat) : Int)) := by rintro ⟨q1, q2⟩; exact hs ⟨by omega, by omega⟩
  rw [decide_eq_false hno, show gtN l (4 * a) 4 = 0 by unfold gtN; rw [if_neg hno]] at K1
  have mw : IntKind.i64.wrap (4 * a) = 4 * a := by rw [IntKind.wrap_i64]; omega
  subst hvf
  clear hs ha hE fin hv hno q1
  go_enter Try.func26, Try.ntmps26
  go_wp2_with fail
  refine K1.mono ?_
  rintro e w2 ⟨rfl, hw2⟩
  replace hw2 := hw2.symm
  subst hw2
  go_wp2
  exact bodyPost_ret (v := .tuple #[.agg #[.int .i64 0, .int .i64 0, .slice none 0 0], .int .i64 0, .int .i64 30]) (by simp [results, Try.results26, go_sem]) rfl (HFin.out _ (bl1 _ _))
structure DcW (w W : World) (B : Nat) (o n : Int) (vb : Value) (R : List (BitVec 32)) : Prop where
  b : Below w.heap.size w W
  r : AtIF W w.heap.size 0 0 (.slice none 0 0)
  i : AtIF W B o n vb
  o : W.ownsRow (B + 1) 71 1 vb R.length (R.map cU)
  s : B + 1 ≤ W.heap.size
section
variable {w W W' : World} {B : Nat} {o n : Int} {vb v' : Value} {R R' : List (BitVec 32)}
theorem DcW.below (h : DcW w W B o n vb R) (hb : Below W.heap.size W W') : DcW w W' B o n vb R := ⟨keepb hb h.b, h.r.below hb, h.i.below hb, own_b13 hb h.o, Nat.le_trans h.s hb.size⟩
theorem AtIF.grown {C : Nat} {row : Option Nat} (h : AtIF W C o n vb) (hg : W.grownBy W' row) (hne : some C ≠ row) : AtIF W' C o n vb := by
  have e : W'.heap[C]? = W.heap[C]? := hg.block C (cell_in h.1.1) hne
  have f : ∀ j, W'.frozen? ⟨C, j, none⟩ = W.frozen? ⟨C, j, none⟩ := fun j => World.frozen?_of_block (a := ⟨C, j, none⟩) e
  exact ⟨⟨hg.cell h.1.1 hne, hg.cell h.1.2.1 hne, hg.cell h.1.2.2 hne⟩, (f 0).trans h.2.1, (f 1).trans h.2.2.1, (f 2).trans h.2.2.2⟩
theorem DcW.app (h : DcW w W B o n vb R) (hB : w.heap.size < B) (ho : W'.ownsRow (B + 1) 71 1 v' R'.length (R'.map cU)) (hg : W.grownBy W' vb.ownBlock) : AtIF W' B o n vb ∧ DcW w (W'.setCell ⟨B, 2, none⟩ v') B o n v' R' := by
  have hne : ∀ C, C ≤ B → some C ≠ vb.ownBlock := fun C hC e => by have := (h.o.lt C e.symm).1; omega
  have hi := h.i.grown hg (hne B (Nat.le_refl _))
  have hr := h.r.grown hg (hne w.heap.size (by omega))
  have hb : Below w.heap.size w W' := h.b.grown hg (by have := h.s; omega) (fun k e => by have := (h.o.lt k e).1; omega)
  refine ⟨hi, ?_⟩
  obtain ⟨⟨i0, i1, i2⟩, f0, f1, f2⟩ := hi
  obtain ⟨⟨r0, r1, r2⟩, g0, g1, g2⟩ := hr
  have hBw : ¬ w.heap.size = B := by omega
  have hBw' : ¬ B = w.heap.size := by omega
  refine ⟨hb.setCell (p := ⟨B, 2, none⟩) (by show w.heap.size ≤ B; omega) _, ⟨⟨?_, ?_, ?_⟩, ?_, ?_, ?_⟩, ⟨⟨?_, ?_, ?_⟩, ?_, ?_, ?_⟩, ownsRow_setCell_below ho (Nat.lt_succ_self _) _, ?_⟩
  all_goals first | (simp [go_sem, *]; done) | skip
  · simp [World.setCell]; exact Nat.le_trans h.s hg.size
end
end Go.Proofs.Ytbgoclfifhdonaa
namespace Go.Proofs.Ytbgoclfifhdonaa
open Go.RowKit
set_option linter.unusedSimpArgs false
set_option linter.unusedVariables false

theorem stopAnd14 {P : Program} {w : World} {ops : Array Oper} {rest : List Oper} {a : Act} {Q : Exit → Act → World → Prop} {d : Option Tmp} {t t2 ty : TypeId} {x y : Operand} {p : String} {af : Array Edge} {g : Option (Nat × Bool)} (h : Hid (wpList P ops Q ({ dst := d, op := .binOp .and t x y t2, type := ty, pos := p, after := af, guard := g } :: rest) a w)) : wpList P ops Q ({ dst := d, op := .binOp .and t x y t2, type := ty, pos := p, after := af, guard := g } :: rest) a w := h.out
theorem sd14a {k c L J : Nat} (h : k + 1 + c ≤ L / 4) (hL : L ≤ 100000) (hJ : J ≤ c) (h1 : 1 ≤ J) : k + J < L / 4 ∧ (0 ≤ ((4 * (k + J) : Nat) : Int) ∧ ((4 * (k + J) : Nat) : Int) ≤ (L : Int) - ((4 : Nat) : Int)) := by omega
theorem sd14b {k c L J : Nat} (h : k + 1 + c ≤ L / 4) (hL : L ≤ 100000) (hJ : J ≤ c) : IntKind.i64.wrap ((k : Int) + (J : Int)) = ((k + J : Nat) : Int) ∧ IntKind.i64.wrap (4 * ((k + J : Nat) : Int)) = ((4 * (k + J) : Nat) : Int) ∧ IntKind.i64.wrap ((J : Int) + 1) = ((J + 1 : Nat) : Int) := by
  refine ⟨?_, ?_, ?_⟩ <;> (rw [IntKind.wrap_i64]; omega)
theorem sd14 {k c L : Nat} (h : k + 1 + c ≤ L / 4) : (c : Int) ≤ (L : Int) / 4 - (k : Int) - 1 := by omega
theorem sd14n {k c L : Nat} (h : ¬ k + 1 + c ≤ L / 4) : (L : Int) / 4 - (k : Int) - 1 < (c : Int) := by omega
theorem wr14 (x : Int) (h0 : -1000000000 ≤ x) (h1 : x ≤ 1000000000) : wrap64 x = x := by unfold wrap64; omega
theorem ex14b {P : Program} {w : World} {s : Sem Value} {v : Value} (h : s.run P w = .ok v w) : (do pure (Next.value (← s)) : Sem Next).run P w = .ok (.value v) w := by
  simp only [Sem.run_bind, h, Sem.run_pure, Result.andThen_ok]
theorem sw_run14 {P : Program} {ops : Array Oper} {Q : Exit → Act → World → Prop} {a : Act} {o : Oper} {rest : List Oper} {w : World} {v : Value}
    (hg : o.guard = none) (h : (execOp a.eval o).run P w = .ok (.value v) w) (k : wpList P ops Q rest (a.put o.dst v) w) : wpList P ops Q (o :: rest) a w := by
  refine wpList_plain hg fun K hK => ?_
  unfold Oper.wp Oper.upon
  rw [h]
  exact hK _ _ k
theorem rd_fin (l : List Nat) (k : Nat) (w : World) (hk : k < l.length / 4) (z : Int) (m : List (BitVec 32)) (hz : z ≠ 0) (hr : rdP l k = (m, z)) (W : World) (hb : Below w.heap.size w W) : ∃ v', (Ending.returned (.tuple #[.agg #[.int .i64 0, .int .i64 0, .slice none 0 0], .int .i64 0, .int .i64 z])) = .returned (.tuple #[insV (dcI l (k : Int)) v', .int .i64 (dcZ l (k : Int)), .int .i64 (dcE l (k : Int))]) ∧ W.ownsRow w.heap.size 71 1 v' (dcI l (k : Int)).m.length ((dcI l (k : Int)).m.map cU) ∧ Below w.heap.size w W := by
  obtain ⟨g1, g2, g3⟩ := dc_bad hk hr hz
  refine ⟨.slice none 0 0, ?_, ?_, hb⟩
  · rw [g1, g2, g3]; rfl
  · rw [g1]; exact World.ownsRow_nil _ _ _ _
theorem dcw_new (w : World) (o n : Int) : DcW w ((w.alloc (.cells #[.int .i64 0, .int .i64 0, .slice none 0 0] 56)).alloc (.cells #[.int .i64 o, .int .i64 n, .slice none 0 0] 56)) (w.heap.size + 1) o n (.slice none 0 0) [] := by
  have q1 := bl1 w (.cells #[.int .i64 0, .int .i64 0, .slice none 0 0] 56)
  have q2 := bl1 (w.alloc (.cells #[.int .i64 0, .int .i64 0, .slice none 0 0] 56)) (.cells #[.int .i64 o, .int .i64 n, .slice none 0 0] 56)
  have a1 := (atif_new w 0 0 (.slice none 0 0) 56).below q2
  have a2 := atif_new (w.alloc (.cells #[.int .i64 0, .int .i64 0, .slice none 0 0] 56)) o n (.slice none 0 0) 56
  have hsz : (w.alloc (.cells #[.int .i64 0, .int .i64 0, .slice none 0 0] 56)).heap.size = w.heap.size + 1 := by simp
  rw [hsz] at a2
  exact ⟨keepb q2 q1, a1, a2, World.ownsRow_nil _ _ _ _, by simp⟩
set_option maxRecDepth 100000 in
set_option maxHeartbeats 16000000 in
theorem rdecode_map (v : Value) (l : List Nat) (k N : Nat) (w : World) (hv : RwX cB w v l) (hl : l.length ≤ 100000) (hx : ∀ b ∈ l, b < 256) (hk : k < l.length / 4) (hO : insO l k = 2) (hN : insN l k = (N : Int)) (hN1 : 1 ≤ N) (hN24 : N ≤ 24) :
    Calls Try.prog 26 #[v, .int .i64 (k : Int)] w fun e w' => ∃ v', e = .returned (.tuple #[insV (dcI l (k : Int)) v', .int .i64 (dcZ l (k : Int)), .int .i64 (dcE l (k : Int))]) ∧ w'.ownsRow w.heap.size 71 1 v' (dcI l (k : Int)).m.length ((dcI l (k : Int)).m.map cU) ∧ Below w.heap.size w w' := by
  obtain ⟨ao, cc, hvf, -⟩ := id hv
  have q1 := bl1 w (.cells #[.int .i64 0, .int .i64 0, .slice none 0 0] 56)
  have K1 := rget13 v l (4 * (k : Int)) 4 4 rfl (by decide) (by decide) _ (hv.below q1) (by omega) hx (by omega) (by omega)
  have hyes : 0 ≤ 4 * (k : Int) ∧ 4 * (k : Int) ≤ (l.length : Int) - ((4 : Nat) : Int) := ⟨by omega, by omega⟩
  have e1 : ((gtN l (4 * (k : Int)) 4 : Nat) : Int) = uI (wdV l k) := by
    rw [wd_uI l k hx]
    unfold gtN
    rw [if_pos hyes, show (4 * (k : Int)).toNat = 4 * k by omega]
  rw [decide_eq_true hyes, e1] at K1
  obtain ⟨A4, hA4⟩ : ∃ A4 : Nat, 4 * (k : Int) = (A4 : Int) := ⟨4 * k, by omega⟩
  have mw : IntKind.i64.wrap (4 * (k : Int)) = (A4 : Int) := by rw [IntKind.wrap_i64]; omega
  rw [hA4] at K1
  have HV := hid13 hv
  have HX := hid13 hx
  have han := and24 (wdV l k)
  obtain ⟨X, hX⟩ : ∃ X, X = uI (wdV l k) := ⟨_, rfl⟩
  obtain ⟨c, hc⟩ : ∃ c, c = mwN N := ⟨_, rfl⟩
  have hR : rdP l k = if k + 1 + c ≤ l.length / 4 then (if isMapB (mpL l (k + 1) c) N = true then (mpL l (k + 1) c, (0 : Int)) else ([], 25)) else ([], 30) := by
    unfold rdP
    rw [hO, hN, if_pos (by decide), if_pos (by show (N : Int) ≤ 255; omega), if_pos (by unfold tkB kLo kHi; simp; omega), if_pos rfl, Int.toNat_natCast]
    unfold rmP
    rw [← hc]
  have hQ : Hid (insO l k = 2 ∧ insN l k = (N : Int)) := ⟨hO, hN⟩
  have x1 : X / 16777216 = 2 := by rw [hX, ← hO]; rfl
  have x2 : bits .and .u32 X 16777215 = (N : Int) := by rw [hX, han, ← hN]; rfl
  have hNw : IntKind.i64.wrap (N : Int) = (N : Int) := by rw [IntKind.wrap_i64]; omega
  rw [← hX] at K1
  have d0 : ¬ (k : Int) < 0 := by omega
  have d1 : ¬ (l.length : Int) ≤ (k : Int) := by omega
  have HAnd : Hid (∀ W : World, (binOp .and 71 (.int .u32 X) (.int .u32 16777215)).run Try.prog W = .ok (.int .u32 (N : Int)) W) := by
    intro W
    rw [binOp_and]
    show Result.ok (Value.int .u32 (bits .and .u32 X 16777215)) W = _
    rw [x2]
  have K5 := fun w => rmapWords_any N hN24 w
  have hch := mwN_hi N hN24
  have hcl := mwN_lo N
  rw [← hc] at K5 hch hcl
  obtain ⟨D, hD⟩ : ∃ D : Int, D = (l.length : Int) / 4 - (k : Int) - 1 := ⟨_, rfl⟩
  have mD : wrap64 (wrap64 (wrap64 ((l.length : Int) / 4) - (k : Int)) - 1) = D := by
    rw [wr14 ((l.length : Int) / 4) (by omega) (by omega), wr14 ((l.length : Int) / 4 - (k : Int)) (by omega) (by omega), wr14 _ (by omega) (by omega), hD]
  have t0 : (N : Int) ≤ 255 := by omega
  have t1 : 1 ≤ (N : Int) := by omega
  have t2 : (N : Int) ≤ 24 := by omega
  subst hvf
  by_cases s1 : k + 1 + c ≤ l.length / 4
  · rw [if_pos s1] at hR
    have HR2 := hid13 hR
    have s2 : (c : Int) ≤ D := by rw [hD]; exact sd14 s1
    have HC : Hid (c ≤ 524288 ∧ 1 ≤ c ∧ N ≤ 24 ∧ k + 1 + c ≤ l.length / 4 ∧ l.length ≤ 100000) := ⟨hch, hcl, hN24, s1, hl⟩
    clear hyes e1 hv hx hX han q1 hO hN hl hk hA4 x2 hch hcl hN24 s1 hc hN1 hR hD
    go_enter Try.func26, Try.ntmps26
    go_wp2_with (first | (go_at_call 36; refine K1.mono ?_; rintro e w2 ⟨rfl, hw2⟩; replace hw2 := hw2.symm; subst hw2) | (with_reducible apply stopAnd14))
    refine (show wpList _ _ _ _ _ _ from ?_)
    refine sw_run14 (v := .int .u32 (N : Int)) rfl (ex14b (HAnd.out _)) ?_
    simp only [Act.put, List.setIfInBounds_toArray, List.set_cons_zero, List.set_cons_succ]
    clear HAnd K1
    go_wp2_with (first | (go_at_call 37; refine (K5 _).mono ?_; rintro e w3 ⟨rfl, hw3⟩; replace hw3 := hw3.symm; subst hw3) | fail)
    have HD0 := hid13 (dcw_new w 2 (N : Int))
    obtain ⟨i0, hi, hz0, hz1, hz2⟩ := info13 Try.infoU13
    clear d0 d1 mw mD s2 t0 t1 t2 x1 K5
    go_loopg [11, 12, 13] c (fun g k11 x12 x13 wr => ∃ (J : Nat) (vb : Value) (R : List (BitVec 32)), Hid (J + g = c + 1 ∧ 1 ≤ J) ∧ k11 = .int .i64 (J : Int) ∧ Hid (DcW w wr (w.heap.size + 1) 2 (N : Int) vb R) ∧ Hid (R = mpL l (k + 1) (J - 1)))
    case atStart => exact ⟨1, _, [], ⟨by omega, Nat.le_refl _⟩, rfl, HD0, rfl⟩
    case round =>
      clear HD0
      obtain ⟨J, vb, R, HJ, rfl, HW, HR⟩ := hrel
      obtain ⟨⟨j0, j1, j2⟩, f0, f1, f2⟩ := HW.out.i
      by_cases hlt : J ≤ c
      · have hli : (J : Int) ≤ (c : Int) := by omega
        obtain ⟨r1, r2⟩ := sd14a HC.out.2.2.2.1 HC.out.2.2.2.2 hlt HJ.out.2
        obtain ⟨m1, m2, m3⟩ := sd14b HC.out.2.2.2.1 HC.out.2.2.2.2 hlt
        have K6 := rget13 (.slice ao l.length cc) l ((4 * (k + J) : Nat) : Int) 4 4 rfl (by decide) (by decide) wr (HV.out.below HW.out.b) (by have := HC.out.2.2.2.2; omega) HX.out (by omega) (by have := HC.out.2.2.2.2; omega)
        have e6 : ((gtN l ((4 * (k + J) : Nat) : Int) 4 : Nat) : Int) = uI (wdV l (k + J)) := by
          rw [wd_uI l (k + J) HX.out]
          unfold gtN
          rw [if_pos r2, Int.toNat_natCast]
        rw [decide_eq_true r2, e6] at K6
        have HR2' : Hid (R ++ [wdV l (k + J)] = mpL l (k + 1) (J + 1 - 1)) := by
          show _ = _
          have h1 := HJ.out.2
          rw [HR.out, show J + 1 - 1 = (J - 1) + 1 by omega, mpL_succ, show k + 1 + (J - 1) = k + J by omega]
        have HRl : Hid (R.length ≤ 524288) := by show _ ≤ _; rw [HR.out, mpL_len]; have := HC.out.1; omega
        have HJ2 : Hid (J + gk = c + 1 ∧ 1 ≤ J ∧ J ≤ c) := ⟨HJ.out.1, HJ.out.2, hlt⟩
        obtain ⟨P1, hP1⟩ : ∃ P1 : Nat, P1 = k + J := ⟨_, rfl⟩
        obtain ⟨P4, hP4⟩ : ∃ P4 : Nat, P4 = 4 * (k + J) := ⟨_, rfl⟩
        obtain ⟨J1, hJ1⟩ : ∃ J1 : Nat, J1 = J + 1 := ⟨_, rfl⟩
        obtain ⟨x, hx⟩ : ∃ x, x = wdV l (k + J) := ⟨_, rfl⟩
        rw [← hx] at K6 HR2'
        rw [← hP4] at m2 K6
        rw [← hP1] at m1 m2
        rw [← hJ1] at m3 HR2'
        have HJ1 := hid13 hJ1
        obtain ⟨vbo, vbc, hvb⟩ := own_form HW.out.o
        have q7 := bl1 wr (.cells #[.int .u32 (uI x)] 71)
        have HW7 := hid13 (HW.out.below q7)
        have h63 : R.length + 1 ≤ maxLen := by have := HRl.out; unfold maxLen; omega
        have h47 : (R.length + 1) * 4 ≤ 140737488355328 := by have := HRl.out; omega
        subst hvb
        clear r1 r2 e6 hP1 hP4 hJ1 hx hlt HJ HR q7
        go_wp2_with (first | (go_at_call 36; refine K6.mono ?_; rintro e w2 ⟨rfl, hw2⟩; replace hw2 := hw2.symm; subst hw2) | (at_builtin; apply stopHere9))
        refine (show wpList _ _ _ _ _ _ from ?_)
        refine wpList_append_lies _ rfl _ _ 54 rfl (w.heap.size + 1 + 1) 71 i0 (.int .u32 0) 1 4 Try.underlying54 hi hz0 hz1 hz2 rfl (by decide) _ R.length (R.map cU) rfl HW7.out.o ⟨wr.heap.size, 0, none⟩ 1 1 [.int .u32 (uI x)] rfl rfl (news13 (by simp [go_sem])) (by intro u hu; simp at hu; subst hu; rfl) (by decide) h63 h47 HW7.out.s _ rfl ?_
        intro g4 cap4 w4 hown4 hgrow hat hlt4
        obtain ⟨hi4, hd4⟩ := HW7.out.app (Nat.lt_succ_self _) (R' := R ++ [x]) (v' := .slice (some ⟨g4, 0, none⟩) (R.length + 1) cap4) (by rw [List.length_append, List.map_append]; exact hown4) hgrow
        have HD4 := hid13 hd4
        obtain ⟨⟨y0, y1, y2⟩, z0, z1, z2⟩ := hi4
        clear hown4 hgrow hat hlt4 h63 h47 HW7 HW hd4 j0 j1 j2 f0 f1 f2 K6
        go_wp2
        go_roundg (gk - 1)
        case measure => have := HJ2.out; omega
        case rel => exact ⟨J1, _, R ++ [x], by have := HJ1.out; have := HJ2.out; exact ⟨by omega, by omega⟩, rfl, HD4, HR2'⟩
      · have hli : ¬ (J : Int) ≤ (c : Int) := by omega
        have hRc : R = mpL l (k + 1) c := by rw [HR.out, show J - 1 = c by have := HJ.out; omega]
        have hRl : R.length = c := by rw [hRc, mpL_len]
        have K8 := risMap_any vb R N wr (own_rwx HW.out.o) HC.out.2.2.1
        have HR3 : Hid (rdP l k = if isMapB R N = true then (R, (0 : Int)) else ([], 25)) := by show _ = _; rw [HR2.out, hRc]
        have HRl := hid13 hRl
        have mc : IntKind.i64.wrap (1 + (c : Int)) = 1 + (c : Int) := by rw [IntKind.wrap_i64]; have := HC.out.1; omega
        obtain ⟨vbo, vbc, hvb⟩ := own_form HW.out.o
        have HKk : Hid (k < l.length / 4) := by show _ < _; have := HC.out; omega
        subst hvb
        clear hRc hRl HR2 HR hlt HJ
        go_wp2_with fail
        refine K8.mono ?_
        rintro e w5 ⟨rfl, hb5⟩
        have HW5 := hid13 (HW.out.below hb5)
        clear K8 hb5 HW j0 j1 j2 f0 f1 f2
        obtain ⟨⟨j0, j1, j2⟩, f0, f1, f2⟩ := HW5.out.i
        obtain ⟨⟨y0, y1, y2⟩, z0, z1, z2⟩ := HW5.out.r
        generalize isMapB R N = z at *
        cases z with
        | true =>
          have HR4 : Hid (rdP l k = (R, 0)) := HR3
          clear HR3
          go_wp2
          obtain ⟨g1, g2, g3⟩ := dc_ok HKk.out HR4.out
          have hcR : 1 + (R.length : Int) = 1 + (c : Int) := by rw [HRl.out]
          refine bodyPost_ret (v := .tuple #[.agg #[.int .i64 2, .int .i64 (N : Int), .slice vbo R.length vbc], .int .i64 (1 + (c : Int)), .int .i64 0]) (by simp [results, Try.results26, go_sem, *]) rfl ⟨.slice vbo R.length vbc, by rw [g1, g2, hcR, g3, hQ.out.1, hQ.out.2]; rfl, ?_, bset3i HW5.out.b (Nat.le_refl _) _ _ _⟩
          rw [g1]
          have h1 : w.heap.size < w.heap.size + 1 + 1 := by omega
          exact own_wide13 (ownsRow_setCell_below (ownsRow_setCell_below (ownsRow_setCell_below HW5.out.o h1 _) h1 _) h1 _) (Nat.le_of_lt h1)
        | false =>
          have HR4 : Hid (rdP l k = ([], 25)) := HR3
          clear HR3
          go_wp2
          exact bodyPost_ret (v := .tuple #[.agg #[.int .i64 0, .int .i64 0, .slice none 0 0], .int .i64 0, .int .i64 25]) (by simp [results, Try.results26, go_sem, *]) rfl (rd_fin l k w HKk.out 25 [] (by decide) HR4.out _ (bset3i HW5.out.b (Nat.le_refl _) _ _ _))
  · rw [if_neg s1] at hR
    have HR2 : Hid (rdP l k = ([], 30)) := hR
    have s2 : D < (c : Int) := by rw [hD]; exact sd14n s1
    have HK := hid13 hk
    clear hyes e1 hv hx hX han q1 hO hN hl hk hA4 x2 hch hcl hN24 s1 hc hN1 hR hD
    go_enter Try.func26, Try.ntmps26
    go_wp2_with (first | (go_at_call 36; refine K1.mono ?_; rintro e w2 ⟨rfl, hw2⟩; replace hw2 := hw2.symm; subst hw2) | (with_reducible apply stopAnd14))
    refine (show wpList _ _ _ _ _ _ from ?_)
    refine sw_run14 (v := .int .u32 (N : Int)) rfl (ex14b (HAnd.out _)) ?_
    simp only [Act.put, List.setIfInBounds_toArray, List.set_cons_zero, List.set_cons_succ]
    clear HAnd K1
    go_wp2_with (first | (go_at_call 37; refine (K5 _).mono ?_; rintro e w3 ⟨rfl, hw3⟩; replace hw3 := hw3.symm; subst hw3) | fail)
    exact bodyPost_ret (v := .tuple #[.agg #[.int .i64 0, .int .i64 0, .slice none 0 0], .int .i64 0, .int .i64 30]) (by simp [results, Try.results26, go_sem]) rfl (rd_fin l k w HK.out 30 [] (by decide) HR2.out _ (keepb (bl1 _ _) (bl1 _ _)))
end Go.Proofs.Ytbgoclfifhdonaa
