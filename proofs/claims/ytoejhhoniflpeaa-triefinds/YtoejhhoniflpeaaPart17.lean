/-
  Part 17 of the proof: 2 texts, one behind the other.
-/
import Derived.Test.YtoejhhoniflpeaaPart16
import Derived.Test.YtoejhhoniflpeaaPart11
/-
  The document's Find.
-/
namespace Go.Proofs.Ytoejhhoniflpeaa
open Go.RowKit
set_option linter.unusedSimpArgs false
set_option linter.unusedVariables false
attribute [local go_sem] Oper.semAt_some

/-- Prefixes in order. -/
def SrtP (P : List (BitVec 128 × Int)) : Prop := ∀ (i j : Nat) (x : BitVec 128) (m : Int) (y : BitVec 128) (u : Int), i < j → P[i]? = some (x, m) → P[j]? = some (y, u) → pcmpZ x m y u < 0
/-- What is known while a prefix is looked for. -/
def FdI (P : List (BitVec 128 × Int)) (x : BitVec 128) (pl : Int) (a b : Nat) : Prop := (∀ (i : Nat) (y : BitVec 128) (u : Int), i < a → P[i]? = some (y, u) → pcmpZ y u x pl < 0) ∧ (∀ (i : Nat) (y : BitVec 128) (u : Int), b ≤ i → P[i]? = some (y, u) → ¬ pcmpZ y u x pl < 0)
/-- What Find tells. -/
def FdR (P : List (BitVec 128 × Int)) (x : BitVec 128) (pl : Int) (r : Int) : Prop := (∃ i : Nat, r = (i : Int) ∧ P[i]? = some (x, pl)) ∨ (r = -1 ∧ ∀ i : Nat, P[i]? ≠ some (x, pl))
theorem pcmp_tr {x y z : BitVec 128} {n m k : Int} (h1 : pcmpZ x n y m < 0) (h2 : pcmpZ y m z k < 0) : pcmpZ x n z k < 0 := by
  rw [pcmp_lt] at *; omega
theorem pcmp_self (x : BitVec 128) (n : Int) : ¬ pcmpZ x n x n < 0 := by rw [pcmp_lt]; omega
theorem FdI.lo {P : List (BitVec 128 × Int)} {x y : BitVec 128} {pl u : Int} {a b q : Nat} (hS : SrtP P) (h : FdI P x pl a b) (hq : P[q]? = some (y, u)) (hc : pcmpZ y u x pl < 0) : FdI P x pl (q + 1) b := by
  refine ⟨fun i y2 u2 h1 h2 => ?_, h.2⟩
  by_cases c : i = q
  · subst c
    rw [hq] at h2
    injection h2 with h2
    injection h2 with h2 h3
    subst h2 h3
    exact hc
  · exact pcmp_tr (hS i q _ _ _ _ (by omega) h2 hq) hc
theorem FdI.hi {P : List (BitVec 128 × Int)} {x y : BitVec 128} {pl u : Int} {a b q : Nat} (hS : SrtP P) (h : FdI P x pl a b) (hq : P[q]? = some (y, u)) (hc : ¬ pcmpZ y u x pl < 0) : FdI P x pl a q := by
  refine ⟨h.1, fun i y2 u2 h1 h2 h3 => ?_⟩
  by_cases c : i = q
  · subst c
    rw [hq] at h2
    injection h2 with h2
    injection h2 with h2 h4
    subst h2 h4
    exact hc h3
  · exact hc (pcmp_tr (hS q i _ _ _ _ (by omega) hq h2) h3)
theorem FdI.no {P : List (BitVec 128 × Int)} {x : BitVec 128} {pl : Int} {a : Nat} (hS : SrtP P) (h : FdI P x pl a a) (hn : P[a]? ≠ some (x, pl)) : FdR P x pl (-1) := by
  refine .inr ⟨rfl, fun i hi => ?_⟩
  have c1 : ¬ i < a := fun c => pcmp_self x pl (h.1 i _ _ c hi)
  have c2 : i ≠ a := fun c => hn (c ▸ hi)
  have il : i < P.length := (List.getElem?_eq_some_iff.mp hi).1
  have al : a < P.length := by omega
  have := hS a i P[a].1 P[a].2 x pl (by omega) (by rw [List.getElem?_eq_getElem al]) hi
  exact h.2 a P[a].1 P[a].2 (Nat.le_refl _) (by rw [List.getElem?_eq_getElem al]) this
/-- The tree, the prefix's variable, what stays. -/
def Fd3 (w : World) (D : Nat) (F : Int) (v : Value) (P : List (BitVec 128 × Int)) (Z : List Int) (gp cp gz cz B : Nat) (x : BitVec 128) (pl : Int) (W : World) : Prop := DrT W D F v P Z gp cp gz cz ∧ AtP W B x pl ∧ Below w.heap.size w W
theorem Fd3.below {w W W' : World} {D : Nat} {F : Int} {v : Value} {P : List (BitVec 128 × Int)} {Z : List Int} {gp cp gz cz B : Nat} {x : BitVec 128} {pl : Int} (k : Fd3 w D F v P Z gp cp gz cz B x pl W) (hb : Below W.heap.size W W') : Fd3 w D F v P Z gp cp gz cz B x pl W' := ⟨k.1.below hb, k.2.1.below hb, keepb hb k.2.2⟩
set_option maxRecDepth 100000 in
set_option maxHeartbeats 16000000 in
theorem rfind8_any (D : Nat) (F : Int) (v : Value) (P : List (BitVec 128 × Int)) (Z : List Int) (gp cp gz cz : Nat) (x : BitVec 128) (pl : Int) (w : World) (h : DrT w D F v P Z gp cp gz cz) (hS : SrtP P) (hl : P.length ≤ 1000000000) :
    Calls Try.prog 24 #[.pointer (some ⟨D, 0, none⟩), .agg #[.int .u64 (hI x), .int .u64 (lI x), .int .i64 pl]] w fun r w' => (∃ m, r = .returned (.int .i64 m) ∧ FdR P x pl m) ∧ Below w.heap.size w w' := by
  have KC := fun y u w => rpcmp_any y u x pl w
  have E1 : ∀ y u w, (Op.equalIn 10000 39 (.agg #[.int .u64 (hI y), .int .u64 (lI y), .int .i64 u]) (.agg #[.int .u64 (hI x), .int .u64 (lI x), .int .i64 pl])).run Try.prog w = .ok ((y == x) && (u == pl)) w := fun y u w => eqP_run y u x pl w
  have HS := hidX hS
  have q0 := bl1 w (.cells #[.int .u64 (hI x), .int .u64 (lI x), .int .i64 pl] 39)
  have HE := hidX E1
  have HW : Hid (Fd3 w D F v P Z gp cp gz cz w.heap.size x pl (w.alloc (.cells #[.int .u64 (hI x), .int .u64 (lI x), .int .i64 pl] 39)).drew) := hidX (Fd3.below ⟨h.below q0, atp_new w w.heap.size x pl 39 rfl, q0⟩ (below_drewN (Below.refl _ _) 1))
  have HCb : Hid (∀ W W', Fd3 w D F v P Z gp cp gz cz w.heap.size x pl W → Below W.heap.size W W' → Fd3 w D F v P Z gp cp gz cz w.heap.size x pl W') := hidX (fun W W' a b => a.below b)
  clear h q0 hS E1
  go_enter Try.func24, Try.ntmps24
  go_wp2_with fail
  refine qw_region (C := Fd3 w D F v P Z gp cp gz cz w.heap.size x pl) (by kernel_rfl) (by kernel_rfl) HW.out ?_
  clear HW
  refine qw_run (v := .pointer (some ⟨D, 0, none⟩)) (by rfl) ?_ ?_
  · (intro w1 hC; clear hC; go_simp; first | done | (simp; done) | (simp [*]; done) | omega | (simp; omega) | rfl)
  simp only [Act.put, List.setIfInBounds_toArray, List.set_cons_zero, List.set_cons_succ]
  refine qw_run (v := .pointer (some ⟨D, 0, none⟩)) (by rfl) ?_ ?_
  · (intro w1 hC; clear hC; go_simp; first | done | (simp; done) | (simp [*]; done) | omega | (simp; omega) | rfl)
  simp only [Act.put, List.setIfInBounds_toArray, List.set_cons_zero, List.set_cons_succ]
  refine qw_run (v := .pointer (some ⟨D, 1, none⟩)) (by rfl) ?_ ?_
  · (intro w1 hC; clear hC; go_simp; first | done | (simp; done) | (simp [*]; done) | omega | (simp; omega) | rfl)
  simp only [Act.put, List.setIfInBounds_toArray, List.set_cons_zero, List.set_cons_succ]
  refine qw_run (v := .slice (some ⟨gp, 0, none⟩) P.length cp) (by rfl) ?_ ?_
  · (intro w1 hC; have f0 := hC.1.ps; clear hC; go_simp; first | done | (simp; done) | (simp [*]; done) | omega | (simp; omega) | rfl)
  simp only [Act.put, List.setIfInBounds_toArray, List.set_cons_zero, List.set_cons_succ]
  refine qw_run (v := .int .i64 (P.length : Int)) (by rfl) ?_ ?_
  · (intro w1 hC; clear hC; go_simp; first | done | (simp; done) | (simp [*]; done) | omega | (simp; omega) | rfl)
  simp only [Act.put, List.setIfInBounds_toArray, List.set_cons_zero, List.set_cons_succ]
  refine qw_run (v := .int .i64 0) (by rfl) ?_ ?_
  · (intro w1 hC; clear hC; go_simp; first | done | (simp; done) | (simp [*]; done) | omega | (simp; omega) | rfl)
  simp only [Act.put, List.setIfInBounds_toArray, List.set_cons_zero, List.set_cons_succ]
  refine qw_run (v := .int .i64 (P.length : Int)) (by rfl) ?_ ?_
  · (intro w1 hC; clear hC; go_simp; first | done | (simp; done) | (simp [*]; done) | omega | (simp; omega) | rfl)
  simp only [Act.put, List.setIfInBounds_toArray, List.set_cons_zero, List.set_cons_succ]
  refine qw_nil ?_
  intro w1 hC
  have HW := hidX hC
  clear hC
  revert HCb HW
  generalize w.heap.size = B
  intro HCb HW
  go_wp2_with fail
  go_loopw [5, 6, 7] (fun lo hi _ wr => ∃ a b : Nat, a ≤ b ∧ b ≤ P.length ∧ lo = .int .i64 (a : Int) ∧ hi = .int .i64 (b : Int) ∧ Hid (FdI P x pl a b) ∧ Hid (Fd3 w D F v P Z gp cp gz cz B x pl wr)) (fun lo hi _ _ => (intOf hi).toNat - (intOf lo).toNat)
  case atStart => exact ⟨0, P.length, by omega, by omega, rfl, rfl, hidX ⟨fun i _ _ h => by omega, fun i _ _ h1 h2 => by have := (List.getElem?_eq_some_iff.mp h2).1; omega⟩, HW⟩
  case round =>
    clear HW
    obtain ⟨a, b, hab, hb, rfl, rfl, HI, HW⟩ := hrel
    by_cases hlt : (a : Int) < (b : Int)
    · obtain ⟨q, hq⟩ : ∃ q, q = (a + b) / 2 := ⟨_, rfl⟩
      have w0 : IntKind.i64.wrap ((a : Int) + (b : Int)) = ((a + b : Nat) : Int) := by rw [IntKind.wrap_i64]; push_cast; omega
      have w1 : IntKind.i64.wrap (((a + b : Nat) : Int).tdiv 2) = (q : Int) := by
        rw [Int.tdiv_eq_ediv_of_nonneg (by omega), IntKind.wrap_i64]; omega
      have wq3 : ((a : Int) + (b : Int)) / 2 = (q : Int) := by omega
      have w2 : IntKind.i64.wrap ((q : Int) + 1) = ((q + 1 : Nat) : Int) := by rw [IntKind.wrap_i64]; push_cast; omega
      have q1 : a ≤ q ∧ q < b := by omega
      have hqP : q < P.length := by omega
      obtain ⟨y, u, hy⟩ : ∃ y u, P[q]? = some (y, u) := ⟨P[q].1, P[q].2, by rw [List.getElem?_eq_getElem hqP]⟩
      have Hy := hidX hy
      clear hy hq
      go_wp2_with fail
      have HD := hidX (HCb.out _ _ HW.out (below_drewN (Below.refl _ _) 1))
      have KX := KC y u
      obtain ⟨z, hz⟩ : ∃ z, z = pcmpZ y u x pl := ⟨_, rfl⟩
      rw [← hz] at KX
      have Hz := hidX hz
      clear HW hz KC
      by_cases hz0 : z < 0
      · refine qw_region (C := Fd3 w D F v P Z gp cp gz cz B x pl) (by kernel_rfl) (by kernel_rfl) HD.out ?_
        clear HD
        refine qw_run (v := .pointer (some ⟨D, 0, none⟩)) (by rfl) ?_ ?_
        · (intro w1 hC; clear hC; go_simp; first | done | (simp; done) | (simp [*]; done) | omega | (simp; omega) | rfl)
        simp only [Act.put, List.setIfInBounds_toArray, List.set_cons_zero, List.set_cons_succ]
        refine qw_run (v := .pointer (some ⟨D, 0, none⟩)) (by rfl) ?_ ?_
        · (intro w1 hC; clear hC; go_simp; first | done | (simp; done) | (simp [*]; done) | omega | (simp; omega) | rfl)
        simp only [Act.put, List.setIfInBounds_toArray, List.set_cons_zero, List.set_cons_succ]
        refine qw_run (v := .pointer (some ⟨D, 1, none⟩)) (by rfl) ?_ ?_
        · (intro w1 hC; clear hC; go_simp; first | done | (simp; done) | (simp [*]; done) | omega | (simp; omega) | rfl)
        simp only [Act.put, List.setIfInBounds_toArray, List.set_cons_zero, List.set_cons_succ]
        refine qw_run (v := .slice (some ⟨gp, 0, none⟩) P.length cp) (by rfl) ?_ ?_
        · (intro w1 hC; have f0 := hC.1.ps; clear hC; go_simp; first | done | (simp; done) | (simp [*]; done) | omega | (simp; omega) | rfl)
        simp only [Act.put, List.setIfInBounds_toArray, List.set_cons_zero, List.set_cons_succ]
        refine qw_run (v := .int .i64 (q : Int)) (by rfl) ?_ ?_
        · (intro w1 hC; clear hC; go_simp; first | done | (simp; done) | (simp [*]; done) | omega | (simp; omega) | rfl)
        simp only [Act.put, List.setIfInBounds_toArray, List.set_cons_zero, List.set_cons_succ]
        refine qw_run (v := .pointer (some ⟨gp, q * 3, none⟩)) (by rfl) ?_ ?_
        · (intro w1 hC; clear hC; go_simp; first | done | (simp; done) | (simp [*]; done) | omega | (simp; omega) | rfl)
        simp only [Act.put, List.setIfInBounds_toArray, List.set_cons_zero, List.set_cons_succ]
        refine qw_run (v := .agg #[.int .u64 (hI y), .int .u64 (lI y), .int .i64 u]) (by rfl) ?_ ?_
        · (intro w1 hC; have f0 := (hC.1.p _ _ _ Hy.out).1; have f1 := (hC.1.p _ _ _ Hy.out).2.1; have f2 := (hC.1.p _ _ _ Hy.out).2.2; clear hC; go_simp; first | done | (simp; done) | (simp [*]; done) | omega | (simp; omega) | rfl)
        simp only [Act.put, List.setIfInBounds_toArray, List.set_cons_zero, List.set_cons_succ]
        refine qw_run (v := .agg #[.int .u64 (hI x), .int .u64 (lI x), .int .i64 pl]) (by rfl) ?_ ?_
        · (intro w1 hC; have f0 := hC.2.1.1; have f1 := hC.2.1.2.1; have f2 := hC.2.1.2.2.1; clear hC; go_simp; first | done | (simp; done) | (simp [*]; done) | omega | (simp; omega) | rfl)
        simp only [Act.put, List.setIfInBounds_toArray, List.set_cons_zero, List.set_cons_succ]
        refine qw_call (v := .int .i64 z) (f := 33) (args := #[.agg #[.int .u64 (hI y), .int .u64 (lI y), .int .i64 u], .agg #[.int .u64 (hI x), .int .u64 (lI x), .int .i64 pl]]) (by rfl) ?_ ?_ ?_
        · (intro w1 hC; clear hC; go_simp)
        · exact fun w1 hC => (KX w1).mono fun e w' ⟨he, hb⟩ => ⟨he, HCb.out _ _ hC hb⟩
        simp only [Act.put, List.setIfInBounds_toArray, List.set_cons_zero, List.set_cons_succ]
        refine qw_run (v := .bool true) (by rfl) ?_ ?_
        · (intro w1 hC; clear hC; go_simp; first | done | (simp; done) | (simp [*]; done) | omega | (simp; omega) | rfl)
        simp only [Act.put, List.setIfInBounds_toArray, List.set_cons_zero, List.set_cons_succ]
        refine qw_nil ?_
        clear KX
        intro w3 hC
        have HW := hidX hC
        clear hC
        go_wp2
        go_roundw
        case rel => exact ⟨q + 1, b, by omega, hb, rfl, rfl, hidX (HI.out.lo HS.out Hy.out (by rw [← Hz.out]; exact hz0)), HW⟩
        case measure => simp [intOf]; omega
      · refine qw_region (C := Fd3 w D F v P Z gp cp gz cz B x pl) (by kernel_rfl) (by kernel_rfl) HD.out ?_
        clear HD
        refine qw_run (v := .pointer (some ⟨D, 0, none⟩)) (by rfl) ?_ ?_
        · (intro w1 hC; clear hC; go_simp; first | done | (simp; done) | (simp [*]; done) | omega | (simp; omega) | rfl)
        simp only [Act.put, List.setIfInBounds_toArray, List.set_cons_zero, List.set_cons_succ]
        refine qw_run (v := .pointer (some ⟨D, 0, none⟩)) (by rfl) ?_ ?_
        · (intro w1 hC; clear hC; go_simp; first | done | (simp; done) | (simp [*]; done) | omega | (simp; omega) | rfl)
        simp only [Act.put, List.setIfInBounds_toArray, List.set_cons_zero, List.set_cons_succ]
        refine qw_run (v := .pointer (some ⟨D, 1, none⟩)) (by rfl) ?_ ?_
        · (intro w1 hC; clear hC; go_simp; first | done | (simp; done) | (simp [*]; done) | omega | (simp; omega) | rfl)
        simp only [Act.put, List.setIfInBounds_toArray, List.set_cons_zero, List.set_cons_succ]
        refine qw_run (v := .slice (some ⟨gp, 0, none⟩) P.length cp) (by rfl) ?_ ?_
        · (intro w1 hC; have f0 := hC.1.ps; clear hC; go_simp; first | done | (simp; done) | (simp [*]; done) | omega | (simp; omega) | rfl)
        simp only [Act.put, List.setIfInBounds_toArray, List.set_cons_zero, List.set_cons_succ]
        refine qw_run (v := .int .i64 (q : Int)) (by rfl) ?_ ?_
        · (intro w1 hC; clear hC; go_simp; first | done | (simp; done) | (simp [*]; done) | omega | (simp; omega) | rfl)
        simp only [Act.put, List.setIfInBounds_toArray, List.set_cons_zero, List.set_cons_succ]
        refine qw_run (v := .pointer (some ⟨gp, q * 3, none⟩)) (by rfl) ?_ ?_
        · (intro w1 hC; clear hC; go_simp; first | done | (simp; done) | (simp [*]; done) | omega | (simp; omega) | rfl)
        simp only [Act.put, List.setIfInBounds_toArray, List.set_cons_zero, List.set_cons_succ]
        refine qw_run (v := .agg #[.int .u64 (hI y), .int .u64 (lI y), .int .i64 u]) (by rfl) ?_ ?_
        · (intro w1 hC; have f0 := (hC.1.p _ _ _ Hy.out).1; have f1 := (hC.1.p _ _ _ Hy.out).2.1; have f2 := (hC.1.p _ _ _ Hy.out).2.2; clear hC; go_simp; first | done | (simp; done) | (simp [*]; done) | omega | (simp; omega) | rfl)
        simp only [Act.put, List.setIfInBounds_toArray, List.set_cons_zero, List.set_cons_succ]
        refine qw_run (v := .agg #[.int .u64 (hI x), .int .u64 (lI x), .int .i64 pl]) (by rfl) ?_ ?_
        · (intro w1 hC; have f0 := hC.2.1.1; have f1 := hC.2.1.2.1; have f2 := hC.2.1.2.2.1; clear hC; go_simp; first | done | (simp; done) | (simp [*]; done) | omega | (simp; omega) | rfl)
        simp only [Act.put, List.setIfInBounds_toArray, List.set_cons_zero, List.set_cons_succ]
        refine qw_call (v := .int .i64 z) (f := 33) (args := #[.agg #[.int .u64 (hI y), .int .u64 (lI y), .int .i64 u], .agg #[.int .u64 (hI x), .int .u64 (lI x), .int .i64 pl]]) (by rfl) ?_ ?_ ?_
        · (intro w1 hC; clear hC; go_simp)
        · exact fun w1 hC => (KX w1).mono fun e w' ⟨he, hb⟩ => ⟨he, HCb.out _ _ hC hb⟩
        simp only [Act.put, List.setIfInBounds_toArray, List.set_cons_zero, List.set_cons_succ]
        refine qw_run (v := .bool false) (by rfl) ?_ ?_
        · (intro w1 hC; clear hC; go_simp; first | done | (simp; done) | (simp [*]; done) | omega | (simp; omega) | rfl)
        simp only [Act.put, List.setIfInBounds_toArray, List.set_cons_zero, List.set_cons_succ]
        refine qw_nil ?_
        clear KX
        intro w3 hC
        have HW := hidX hC
        clear hC
        go_wp2
        go_roundw
        case rel => exact ⟨a, q, by omega, by omega, rfl, by rw [wq3], hidX (HI.out.hi HS.out Hy.out (by rw [← Hz.out]; exact hz0)), HW⟩
        case measure => simp [intOf]; omega
    · have hba : b = a := by omega
      subst hba
      clear KC hab
      have HD := hidX (HCb.out _ _ HW.out (below_drewN (Below.refl _ _) 1))
      clear HW
      by_cases hin : (b : Int) < (P.length : Int)
      · obtain ⟨y, u, hy⟩ : ∃ y u, P[b]? = some (y, u) := ⟨P[b].1, P[b].2, by rw [List.getElem?_eq_getElem (by omega)]⟩
        have Hy := hidX hy
        have E2 := HE.out y u
        obtain ⟨t, ht⟩ : ∃ t, t = ((y == x) && (u == pl)) := ⟨_, rfl⟩
        rw [← ht] at E2
        have Ht := hidX ht
        clear hy ht
        go_wp2_with fail
        refine qw_region (C := Fd3 w D F v P Z gp cp gz cz B x pl) (by kernel_rfl) (by kernel_rfl) HD.out ?_
        clear HD
        refine qw_run (v := .int .i64 (b : Int)) (by rfl) ?_ ?_
        · (intro w1 hC; clear hC; go_simp; first | done | (simp; done) | (simp [*]; done) | omega | (simp; omega) | rfl)
        simp only [Act.put, List.setIfInBounds_toArray, List.set_cons_zero, List.set_cons_succ]
        refine qw_run (v := .pointer (some ⟨D, 0, none⟩)) (by rfl) ?_ ?_
        · (intro w1 hC; clear hC; go_simp; first | done | (simp; done) | (simp [*]; done) | omega | (simp; omega) | rfl)
        simp only [Act.put, List.setIfInBounds_toArray, List.set_cons_zero, List.set_cons_succ]
        refine qw_run (v := .pointer (some ⟨D, 0, none⟩)) (by rfl) ?_ ?_
        · (intro w1 hC; clear hC; go_simp; first | done | (simp; done) | (simp [*]; done) | omega | (simp; omega) | rfl)
        simp only [Act.put, List.setIfInBounds_toArray, List.set_cons_zero, List.set_cons_succ]
        refine qw_run (v := .pointer (some ⟨D, 1, none⟩)) (by rfl) ?_ ?_
        · (intro w1 hC; clear hC; go_simp; first | done | (simp; done) | (simp [*]; done) | omega | (simp; omega) | rfl)
        simp only [Act.put, List.setIfInBounds_toArray, List.set_cons_zero, List.set_cons_succ]
        refine qw_run (v := .slice (some ⟨gp, 0, none⟩) P.length cp) (by rfl) ?_ ?_
        · (intro w1 hC; have f0 := hC.1.ps; clear hC; go_simp; first | done | (simp; done) | (simp [*]; done) | omega | (simp; omega) | rfl)
        simp only [Act.put, List.setIfInBounds_toArray, List.set_cons_zero, List.set_cons_succ]
        refine qw_run (v := .int .i64 (P.length : Int)) (by rfl) ?_ ?_
        · (intro w1 hC; clear hC; go_simp; first | done | (simp; done) | (simp [*]; done) | omega | (simp; omega) | rfl)
        simp only [Act.put, List.setIfInBounds_toArray, List.set_cons_zero, List.set_cons_succ]
        refine qw_run (v := .bool true) (by rfl) ?_ ?_
        · (intro w1 hC; clear hC; go_simp; first | done | (simp; done) | (simp [*]; done) | omega | (simp; omega) | rfl)
        simp only [Act.put, List.setIfInBounds_toArray, List.set_cons_zero, List.set_cons_succ]
        refine qw_run (v := .bool true) (by rfl) ?_ ?_
        · (intro w1 hC; clear hC; go_simp; first | done | (simp; done) | (simp [*]; done) | omega | (simp; omega) | rfl)
        simp only [Act.put, List.setIfInBounds_toArray, List.set_cons_zero, List.set_cons_succ]
        refine qw_run (v := .pointer (some ⟨D, 0, none⟩)) (by rfl) ?_ ?_
        · (intro w1 hC; clear hC; go_simp; first | done | (simp; done) | (simp [*]; done) | omega | (simp; omega) | rfl)
        simp only [Act.put, List.setIfInBounds_toArray, List.set_cons_zero, List.set_cons_succ]
        refine qw_run (v := .pointer (some ⟨D, 0, none⟩)) (by rfl) ?_ ?_
        · (intro w1 hC; clear hC; go_simp; first | done | (simp; done) | (simp [*]; done) | omega | (simp; omega) | rfl)
        simp only [Act.put, List.setIfInBounds_toArray, List.set_cons_zero, List.set_cons_succ]
        refine qw_run (v := .pointer (some ⟨D, 1, none⟩)) (by rfl) ?_ ?_
        · (intro w1 hC; clear hC; go_simp; first | done | (simp; done) | (simp [*]; done) | omega | (simp; omega) | rfl)
        simp only [Act.put, List.setIfInBounds_toArray, List.set_cons_zero, List.set_cons_succ]
        refine qw_run (v := .slice (some ⟨gp, 0, none⟩) P.length cp) (by rfl) ?_ ?_
        · (intro w1 hC; have f0 := hC.1.ps; clear hC; go_simp; first | done | (simp; done) | (simp [*]; done) | omega | (simp; omega) | rfl)
        simp only [Act.put, List.setIfInBounds_toArray, List.set_cons_zero, List.set_cons_succ]
        refine qw_run (v := .int .i64 (b : Int)) (by rfl) ?_ ?_
        · (intro w1 hC; clear hC; go_simp; first | done | (simp; done) | (simp [*]; done) | omega | (simp; omega) | rfl)
        simp only [Act.put, List.setIfInBounds_toArray, List.set_cons_zero, List.set_cons_succ]
        refine qw_run (v := .pointer (some ⟨gp, b * 3, none⟩)) (by rfl) ?_ ?_
        · (intro w1 hC; clear hC; go_simp; first | done | (simp; done) | (simp [*]; done) | omega | (simp; omega) | rfl)
        simp only [Act.put, List.setIfInBounds_toArray, List.set_cons_zero, List.set_cons_succ]
        refine qw_run (v := .agg #[.int .u64 (hI y), .int .u64 (lI y), .int .i64 u]) (by rfl) ?_ ?_
        · (intro w1 hC; have f0 := (hC.1.p _ _ _ Hy.out).1; have f1 := (hC.1.p _ _ _ Hy.out).2.1; have f2 := (hC.1.p _ _ _ Hy.out).2.2; clear hC; go_simp; first | done | (simp; done) | (simp [*]; done) | omega | (simp; omega) | rfl)
        simp only [Act.put, List.setIfInBounds_toArray, List.set_cons_zero, List.set_cons_succ]
        refine qw_run (v := .agg #[.int .u64 (hI x), .int .u64 (lI x), .int .i64 pl]) (by rfl) ?_ ?_
        · (intro w1 hC; have f0 := hC.2.1.1; have f1 := hC.2.1.2.1; have f2 := hC.2.1.2.2.1; clear hC; go_simp; first | done | (simp; done) | (simp [*]; done) | omega | (simp; omega) | rfl)
        simp only [Act.put, List.setIfInBounds_toArray, List.set_cons_zero, List.set_cons_succ]
        refine qw_run (v := .bool t) (by rfl) ?_ ?_
        · (intro w1 hC; clear hC; go_simp; first | done | (simp; done) | (simp [*]; done) | omega | (simp; omega) | rfl)
        simp only [Act.put, List.setIfInBounds_toArray, List.set_cons_zero, List.set_cons_succ]
        refine qw_run (v := .bool t) (by rfl) ?_ ?_
        · (intro w1 hC; clear hC; go_simp; first | done | (simp; done) | (simp [*]; done) | omega | (simp; omega) | rfl)
        simp only [Act.put, List.setIfInBounds_toArray, List.set_cons_zero, List.set_cons_succ]
        refine qw_nil ?_
        clear E2
        intro w3 hC
        have HW := hidX hC
        clear hC
        cases t
        · go_wp2
          exact bodyPost_ret (v := .int .i64 (-1)) (by simp [results, Try.results24, go_sem]) rfl ⟨⟨_, rfl, HI.out.no HS.out (fun h => by rw [Hy.out] at h; injection h with h; injection h with h1 h2; have := Ht.out; rw [h1, h2] at this; simp at this)⟩, HW.out.2.2⟩
        · go_wp2
          exact bodyPost_ret (v := .int .i64 (b : Int)) (by simp [results, Try.results24, go_sem]) rfl ⟨⟨_, rfl, .inl ⟨b, rfl, by have := Ht.out.symm; rw [Bool.and_eq_true, beq_iff_eq, beq_iff_eq] at this; rw [Hy.out, this.1, this.2]⟩⟩, HW.out.2.2⟩
      · go_wp2_with fail
        refine qw_region (C := Fd3 w D F v P Z gp cp gz cz B x pl) (by kernel_rfl) (by kernel_rfl) HD.out ?_
        clear HD
        refine qw_run (v := .int .i64 (b : Int)) (by rfl) ?_ ?_
        · (intro w1 hC; clear hC; go_simp; first | done | (simp; done) | (simp [*]; done) | omega | (simp; omega) | rfl)
        simp only [Act.put, List.setIfInBounds_toArray, List.set_cons_zero, List.set_cons_succ]
        refine qw_run (v := .pointer (some ⟨D, 0, none⟩)) (by rfl) ?_ ?_
        · (intro w1 hC; clear hC; go_simp; first | done | (simp; done) | (simp [*]; done) | omega | (simp; omega) | rfl)
        simp only [Act.put, List.setIfInBounds_toArray, List.set_cons_zero, List.set_cons_succ]
        refine qw_run (v := .pointer (some ⟨D, 0, none⟩)) (by rfl) ?_ ?_
        · (intro w1 hC; clear hC; go_simp; first | done | (simp; done) | (simp [*]; done) | omega | (simp; omega) | rfl)
        simp only [Act.put, List.setIfInBounds_toArray, List.set_cons_zero, List.set_cons_succ]
        refine qw_run (v := .pointer (some ⟨D, 1, none⟩)) (by rfl) ?_ ?_
        · (intro w1 hC; clear hC; go_simp; first | done | (simp; done) | (simp [*]; done) | omega | (simp; omega) | rfl)
        simp only [Act.put, List.setIfInBounds_toArray, List.set_cons_zero, List.set_cons_succ]
        refine qw_run (v := .slice (some ⟨gp, 0, none⟩) P.length cp) (by rfl) ?_ ?_
        · (intro w1 hC; have f0 := hC.1.ps; clear hC; go_simp; first | done | (simp; done) | (simp [*]; done) | omega | (simp; omega) | rfl)
        simp only [Act.put, List.setIfInBounds_toArray, List.set_cons_zero, List.set_cons_succ]
        refine qw_run (v := .int .i64 (P.length : Int)) (by rfl) ?_ ?_
        · (intro w1 hC; clear hC; go_simp; first | done | (simp; done) | (simp [*]; done) | omega | (simp; omega) | rfl)
        simp only [Act.put, List.setIfInBounds_toArray, List.set_cons_zero, List.set_cons_succ]
        refine qw_run (v := .bool false) (by rfl) ?_ ?_
        · (intro w1 hC; clear hC; go_simp; first | done | (simp; done) | (simp [*]; done) | omega | (simp; omega) | rfl)
        simp only [Act.put, List.setIfInBounds_toArray, List.set_cons_zero, List.set_cons_succ]
        refine qw_run (v := .bool false) (by rfl) ?_ ?_
        · (intro w1 hC; clear hC; go_simp; first | done | (simp; done) | (simp [*]; done) | omega | (simp; omega) | rfl)
        simp only [Act.put, List.setIfInBounds_toArray, List.set_cons_zero, List.set_cons_succ]
        refine qw_skip (by rfl) ?_
        simp only [Act.put, List.setIfInBounds_toArray, List.set_cons_zero, List.set_cons_succ]
        refine qw_skip (by rfl) ?_
        simp only [Act.put, List.setIfInBounds_toArray, List.set_cons_zero, List.set_cons_succ]
        refine qw_skip (by rfl) ?_
        simp only [Act.put, List.setIfInBounds_toArray, List.set_cons_zero, List.set_cons_succ]
        refine qw_skip (by rfl) ?_
        simp only [Act.put, List.setIfInBounds_toArray, List.set_cons_zero, List.set_cons_succ]
        refine qw_skip (by rfl) ?_
        simp only [Act.put, List.setIfInBounds_toArray, List.set_cons_zero, List.set_cons_succ]
        refine qw_skip (by rfl) ?_
        simp only [Act.put, List.setIfInBounds_toArray, List.set_cons_zero, List.set_cons_succ]
        refine qw_skip (by rfl) ?_
        simp only [Act.put, List.setIfInBounds_toArray, List.set_cons_zero, List.set_cons_succ]
        refine qw_skip (by rfl) ?_
        simp only [Act.put, List.setIfInBounds_toArray, List.set_cons_zero, List.set_cons_succ]
        refine qw_skip (by rfl) ?_
        simp only [Act.put, List.setIfInBounds_toArray, List.set_cons_zero, List.set_cons_succ]
        refine qw_run (v := .bool false) (by rfl) ?_ ?_
        · (intro w1 hC; clear hC; go_simp; first | done | (simp; done) | (simp [*]; done) | omega | (simp; omega) | rfl)
        simp only [Act.put, List.setIfInBounds_toArray, List.set_cons_zero, List.set_cons_succ]
        refine qw_nil ?_
        intro w3 hC
        have HW := hidX hC
        clear hC
        go_wp2
        exact bodyPost_ret (v := .int .i64 (-1)) (by simp [results, Try.results24, go_sem]) rfl ⟨⟨_, rfl, HI.out.no HS.out (fun h => by have := (List.getElem?_eq_some_iff.mp h).1; omega)⟩, HW.out.2.2⟩
end Go.Proofs.Ytoejhhoniflpeaa
/-
  The document's Count and Height.
-/
namespace Go.Proofs.Ytoejhhoniflpeaa
open Go.RowKit
set_option linter.unusedSimpArgs false
set_option linter.unusedVariables false
attribute [local go_sem] Oper.semAt_some

theorem cnt_step (L : List Nd) {n k : Nat} (h : n ≤ k) : cntR L n (k + 1 - n) = cntR L n (k - n) + (if 0 < hp L k then 1 else 0) := by
  rw [show k + 1 - n = (k - n) + 1 by omega]
  show _ + (if 0 < hp L (n + (k - n)) then (1 : Int) else 0) = _
  rw [show n + (k - n) = k by omega]
def hgtR (L : List Nd) (n k : Nat) : Int := max 0 (topR L n (k - n) - ln L n)
theorem hgt_step (L : List Nd) {n k : Nat} (h : n ≤ k) : hgtR L n (k + 1) = if ln L k - ln L n > hgtR L n k then ln L k - ln L n else hgtR L n k := by
  unfold hgtR
  rw [show k + 1 - n = (k - n) + 1 by omega]
  show max 0 (max (topR L n (k - n)) (ln L (n + (k - n))) - ln L n) = _
  rw [show n + (k - n) = k by omega]
  omega
theorem hgt_fin (L : List Nd) {n e : Nat} (h : n < e) : hgtR L n e = topR L n (e - n) - ln L n := by
  unfold hgtR
  have := topR_ge L n (e - n) n (Nat.le_refl _) (by omega)
  omega
section
variable (D : Nat) (F : Int) (v : Value) (P : List (BitVec 128 × Int)) (Z : List Int) (gp cp gz cz : Nat)
theorem is_no {n : Int} {m : Nat} (h : ¬ (0 ≤ n ∧ n < m)) : (decide (0 ≤ n) && decide (n < (m : Int))) = false := by
  rw [Bool.and_eq_false_iff, decide_eq_false_iff_not, decide_eq_false_iff_not]; omega
theorem is_yes {n m : Nat} (h : n < m) : (decide (0 ≤ (n : Int)) && decide ((n : Int) < (m : Int))) = true := by
  rw [Bool.and_eq_true, decide_eq_true_eq, decide_eq_true_eq]; omega
theorem rcount8_no (n : Int) (w : World) (h : DrT w D F v P Z gp cp gz cz) (hn : ¬ (0 ≤ n ∧ n < P.length)) :
    Calls Try.prog 20 #[.pointer (some ⟨D, 0, none⟩), .int .i64 n] w fun e w' => e = .returned (.int .i64 0) ∧ w' = w := by
  have KI := ris8_any D F v P Z gp cp gz cz n w h
  rw [is_no hn] at KI
  clear h hn
  go_enter Try.func20, Try.ntmps20
  go_wp2_with fail
  refine KI.mono ?_
  rintro e w' ⟨rfl, rfl⟩
  clear KI
  go_wp2
  exact bodyPost_ret (v := .int .i64 0) (by simp [results, Try.results20, go_sem, *]) rfl ⟨rfl, rfl⟩
theorem rheight8_no (n : Int) (w : World) (h : DrT w D F v P Z gp cp gz cz) (hn : ¬ (0 ≤ n ∧ n < P.length)) :
    Calls Try.prog 18 #[.pointer (some ⟨D, 0, none⟩), .int .i64 n] w fun e w' => e = .returned (.int .i64 0) ∧ w' = w := by
  have KI := ris8_any D F v P Z gp cp gz cz n w h
  rw [is_no hn] at KI
  clear h hn
  go_enter Try.func18, Try.ntmps18
  go_wp2_with fail
  refine KI.mono ?_
  rintro e w' ⟨rfl, rfl⟩
  clear KI
  go_wp2
  exact bodyPost_ret (v := .int .i64 0) (by simp [results, Try.results18, go_sem, *]) rfl ⟨rfl, rfl⟩
set_option maxRecDepth 100000 in
set_option maxHeartbeats 16000000 in
theorem rcount8_yes (L : List Nd) (n e : Nat) (w : World) (h : DrT w D F v P Z gp cp gz cz) (he : EndP P n e) (hl : P.length ≤ 1000000000) (hz : ∀ j, j < P.length → Z[j]? = some (hp L j)) :
    Calls Try.prog 20 #[.pointer (some ⟨D, 0, none⟩), .int .i64 (n : Int)] w fun r w' => r = .returned (.int .i64 (cntR L n (e - n))) ∧ Below w.heap.size w w' := by
  have KI := ris8_any D F v P Z gp cp gz cz (n : Int) w h
  rw [is_yes (by have := he.1; have := he.2.1; omega)] at KI
  have KE := fun w h => rend8_any D F v P Z gp cp gz cz n e w h he hl
  have HS := hidX (And.intro h (Below.refl w.heap.size w))
  have He := hidX he
  have Hz := hidX hz
  have hne : n ≤ e := by have := he.1; omega
  have heP : e ≤ P.length := he.2.1
  clear h he hz
  go_enter Try.func20, Try.ntmps20
  go_wp2_with fail
  refine KI.mono ?_
  rintro r w' ⟨rfl, rfl⟩
  clear KI
  go_wp2_with fail
  go_loopw [5, 6] (fun c i wr => ∃ k : Nat, n ≤ k ∧ k ≤ e ∧ c = .int .i64 (cntR L n (k - n)) ∧ i = .int .i64 (k : Int) ∧ Hid (DrT wr D F v P Z gp cp gz cz ∧ Below w'.heap.size w' wr)) (fun _ i _ => e - (intOf i).toNat)
  case atStart => exact ⟨n, Nat.le_refl _, hne, by rw [Nat.sub_self]; rfl, rfl, HS⟩
  case round =>
    clear HS
    obtain ⟨k, hk1, hk2, rfl, rfl, HS⟩ := hrel
    have KX := KE _ HS.out.1
    have Hst := hidX (cnt_step L hk1)
    obtain ⟨A, hA⟩ : ∃ A, A = cntR L n (k - n) := ⟨_, rfl⟩
    have Ab := cntR_bd L n (k - n)
    rw [← hA] at Hst Ab ⊢
    have HA := hidX hA
    clear hA
    by_cases hlt : (k : Int) < (e : Int)
    · obtain ⟨q, hq⟩ : ∃ q, q = hp L k := ⟨_, rfl⟩
      have hzk := Hz.out k (by omega)
      rw [← hq] at Hst hzk
      have hzl : k < Z.length := (List.getElem?_eq_some_iff.mp hzk).1
      have Hzk := hidX hzk
      clear hq hzk
      have wk : IntKind.i64.wrap ((k : Int) + 1) = ((k + 1 : Nat) : Int) := by rw [IntKind.wrap_i64]; push_cast; omega
      have wA : IntKind.i64.wrap (A + 1) = A + 1 := by rw [IntKind.wrap_i64]; omega
      go_wp2_with fail
      refine KX.mono ?_
      rintro r w2 ⟨rfl, hb⟩
      have HS2 := hidX (And.intro (HS.out.1.below hb) (keepb hb HS.out.2))
      clear KX HS hb KE
      have z0 := HS2.out.1.zs
      have z1 := HS2.out.1.z k q Hzk.out
      by_cases h0 : 0 < q
      · go_wp2
        go_roundw
        case rel => exact ⟨k + 1, by omega, by omega, by rw [Hst.out, if_pos h0], rfl, HS2⟩
        case measure => simp [intOf]; omega
      · go_wp2
        go_roundw
        case rel => exact ⟨k + 1, by omega, by omega, by rw [Hst.out, if_neg (by omega), Int.add_zero], rfl, HS2⟩
        case measure => simp [intOf]; omega
    · have hke : k = e := by omega
      go_wp2_with fail
      refine KX.mono ?_
      rintro r w2 ⟨rfl, hb⟩
      have HS2 := hidX (keepb hb HS.out.2)
      clear KX HS hb KE
      go_wp2
      exact bodyPost_ret (v := .int .i64 A) (by simp [results, Try.results20, go_sem]) rfl ⟨by rw [HA.out, hke], HS2.out⟩
set_option maxRecDepth 100000 in
set_option maxHeartbeats 16000000 in
theorem rheight8_yes (L : List Nd) (n e : Nat) (w : World) (h : DrT w D F v P Z gp cp gz cz) (he : EndP P n e) (hl : P.length ≤ 1000000000) (hp : ∀ j, j < P.length → ∃ x, P[j]? = some (x, ln L j)) (hln : ∀ j, j < P.length → 0 ≤ ln L j ∧ ln L j ≤ 128) :
    Calls Try.prog 18 #[.pointer (some ⟨D, 0, none⟩), .int .i64 (n : Int)] w fun r w' => r = .returned (.int .i64 (topR L n (e - n) - ln L n)) ∧ Below w.heap.size w w' := by
  rw [← hgt_fin L he.1]
  have KI := ris8_any D F v P Z gp cp gz cz (n : Int) w h
  have hnP : n < P.length := by have := he.1; have := he.2.1; omega
  rw [is_yes hnP] at KI
  have KE := fun w h => rend8_any D F v P Z gp cp gz cz n e w h he hl
  have HS := hidX (And.intro h (Below.refl w.heap.size w))
  have He := hidX he
  have Hz := hidX hp
  have Hln := hidX hln
  obtain ⟨y, hy⟩ := hp n hnP
  have h00 : hgtR L n n = 0 := by
    unfold hgtR
    rw [Nat.sub_self]
    have := (hln n hnP).1
    show max 0 (0 - ln L n) = 0
    omega
  have H00 := hidX h00
  obtain ⟨u, hu⟩ : ∃ u, u = ln L n := ⟨_, rfl⟩
  have hu2 := hln n hnP
  rw [← hu] at hy hu2
  have Hu := hidX hu
  have Hy := hidX hy
  have hne : n ≤ e := by have := he.1; omega
  have heP : e ≤ P.length := he.2.1
  clear h he hp hln hy hu h00
  go_enter Try.func18, Try.ntmps18
  go_wp2_with fail
  refine KI.mono ?_
  rintro r w' ⟨rfl, rfl⟩
  clear KI
  go_wp2_with fail
  go_loopw [5, 6] (fun c i wr => ∃ k : Nat, n ≤ k ∧ k ≤ e ∧ c = .int .i64 (hgtR L n k) ∧ i = .int .i64 (k : Int) ∧ Hid (DrT wr D F v P Z gp cp gz cz ∧ Below w'.heap.size w' wr)) (fun _ i _ => e - (intOf i).toNat)
  case atStart => exact ⟨n, Nat.le_refl _, hne, by rw [H00.out], rfl, HS⟩
  case round =>
    clear HS
    obtain ⟨k, hk1, hk2, rfl, rfl, HS⟩ := hrel
    have KX := KE _ HS.out.1
    have Hst := hidX (hgt_step L hk1)
    obtain ⟨A, hA⟩ : ∃ A, A = hgtR L n k := ⟨_, rfl⟩
    rw [← hA, ← Hu.out] at Hst
    rw [← hA]
    have HA := hidX hA
    clear hA
    by_cases hlt : (k : Int) < (e : Int)
    · obtain ⟨x, hx⟩ := Hz.out k (by omega)
      obtain ⟨q, hq⟩ : ∃ q, q = ln L k := ⟨_, rfl⟩
      have hq2 := Hln.out k (by omega)
      rw [← hq] at hx hq2 Hst
      have Hx := hidX hx
      clear hq hx
      have hkP : k < P.length := by omega
      have wk : IntKind.i64.wrap ((k : Int) + 1) = ((k + 1 : Nat) : Int) := by rw [IntKind.wrap_i64]; push_cast; omega
      have wq : IntKind.i64.wrap (q - u) = q - u := by rw [IntKind.wrap_i64]; omega
      go_wp2_with fail
      refine KX.mono ?_
      rintro r w2 ⟨rfl, hb⟩
      have HD := hidX (And.intro ((HS.out.1.below hb).below (below_drewN (Below.refl _ _) 1)) (keepb (below_drewN (Below.refl _ _) 1) (keepb hb HS.out.2)))
      clear KX HS hb KE
      go_wp2_with fail
      refine qw_region (C := fun W => DrT W D F v P Z gp cp gz cz ∧ Below w'.heap.size w' W) (by kernel_rfl) (by kernel_rfl) HD.out ?_
      clear HD
      refine qw_run (v := .int .i64 A) (by rfl) ?_ ?_
      · (intro w1 hC; clear hC; go_simp; first | done | (simp; done) | (simp [*]; done) | omega | (simp; omega) | rfl)
      simp only [Act.put, List.setIfInBounds_toArray, List.set_cons_zero, List.set_cons_succ]
      refine qw_run (v := .pointer (some ⟨D, 0, none⟩)) (by rfl) ?_ ?_
      · (intro w1 hC; clear hC; go_simp; first | done | (simp; done) | (simp [*]; done) | omega | (simp; omega) | rfl)
      simp only [Act.put, List.setIfInBounds_toArray, List.set_cons_zero, List.set_cons_succ]
      refine qw_run (v := .pointer (some ⟨D, 0, none⟩)) (by rfl) ?_ ?_
      · (intro w1 hC; clear hC; go_simp; first | done | (simp; done) | (simp [*]; done) | omega | (simp; omega) | rfl)
      simp only [Act.put, List.setIfInBounds_toArray, List.set_cons_zero, List.set_cons_succ]
      refine qw_run (v := .pointer (some ⟨D, 1, none⟩)) (by rfl) ?_ ?_
      · (intro w1 hC; clear hC; go_simp; first | done | (simp; done) | (simp [*]; done) | omega | (simp; omega) | rfl)
      simp only [Act.put, List.setIfInBounds_toArray, List.set_cons_zero, List.set_cons_succ]
      refine qw_run (v := .slice (some ⟨gp, 0, none⟩) P.length cp) (by rfl) ?_ ?_
      · (intro w1 hC; have f0 := hC.1.ps; clear hC; go_simp; first | done | (simp; done) | (simp [*]; done) | omega | (simp; omega) | rfl)
      simp only [Act.put, List.setIfInBounds_toArray, List.set_cons_zero, List.set_cons_succ]
      refine qw_run (v := .int .i64 (k : Int)) (by rfl) ?_ ?_
      · (intro w1 hC; clear hC; go_simp; first | done | (simp; done) | (simp [*]; done) | omega | (simp; omega) | rfl)
      simp only [Act.put, List.setIfInBounds_toArray, List.set_cons_zero, List.set_cons_succ]
      refine qw_run (v := .pointer (some ⟨gp, k * 3, none⟩)) (by rfl) ?_ ?_
      · (intro w1 hC; clear hC; go_simp; first | done | (simp; done) | (simp [*]; done) | omega | (simp; omega) | rfl)
      simp only [Act.put, List.setIfInBounds_toArray, List.set_cons_zero, List.set_cons_succ]
      refine qw_run (v := .pointer (some ⟨gp, k * 3 + 2, none⟩)) (by rfl) ?_ ?_
      · (intro w1 hC; clear hC; go_simp; first | done | (simp; done) | (simp [*]; done) | omega | (simp; omega) | rfl)
      simp only [Act.put, List.setIfInBounds_toArray, List.set_cons_zero, List.set_cons_succ]
      refine qw_run (v := .int .i64 q) (by rfl) ?_ ?_
      · (intro w1 hC; have f0 := (hC.1.p _ _ _ Hx.out).2.2; clear hC; go_simp; first | done | (simp; done) | (simp [*]; done) | omega | (simp; omega) | rfl)
      simp only [Act.put, List.setIfInBounds_toArray, List.set_cons_zero, List.set_cons_succ]
      refine qw_run (v := .pointer (some ⟨D, 0, none⟩)) (by rfl) ?_ ?_
      · (intro w1 hC; clear hC; go_simp; first | done | (simp; done) | (simp [*]; done) | omega | (simp; omega) | rfl)
      simp only [Act.put, List.setIfInBounds_toArray, List.set_cons_zero, List.set_cons_succ]
      refine qw_run (v := .pointer (some ⟨D, 0, none⟩)) (by rfl) ?_ ?_
      · (intro w1 hC; clear hC; go_simp; first | done | (simp; done) | (simp [*]; done) | omega | (simp; omega) | rfl)
      simp only [Act.put, List.setIfInBounds_toArray, List.set_cons_zero, List.set_cons_succ]
      refine qw_run (v := .pointer (some ⟨D, 1, none⟩)) (by rfl) ?_ ?_
      · (intro w1 hC; clear hC; go_simp; first | done | (simp; done) | (simp [*]; done) | omega | (simp; omega) | rfl)
      simp only [Act.put, List.setIfInBounds_toArray, List.set_cons_zero, List.set_cons_succ]
      refine qw_run (v := .slice (some ⟨gp, 0, none⟩) P.length cp) (by rfl) ?_ ?_
      · (intro w1 hC; have f0 := hC.1.ps; clear hC; go_simp; first | done | (simp; done) | (simp [*]; done) | omega | (simp; omega) | rfl)
      simp only [Act.put, List.setIfInBounds_toArray, List.set_cons_zero, List.set_cons_succ]
      refine qw_run (v := .int .i64 (n : Int)) (by rfl) ?_ ?_
      · (intro w1 hC; clear hC; go_simp; first | done | (simp; done) | (simp [*]; done) | omega | (simp; omega) | rfl)
      simp only [Act.put, List.setIfInBounds_toArray, List.set_cons_zero, List.set_cons_succ]
      refine qw_run (v := .pointer (some ⟨gp, n * 3, none⟩)) (by rfl) ?_ ?_
      · (intro w1 hC; clear hC; go_simp; first | done | (simp; done) | (simp [*]; done) | omega | (simp; omega) | rfl)
      simp only [Act.put, List.setIfInBounds_toArray, List.set_cons_zero, List.set_cons_succ]
      refine qw_run (v := .pointer (some ⟨gp, n * 3 + 2, none⟩)) (by rfl) ?_ ?_
      · (intro w1 hC; clear hC; go_simp; first | done | (simp; done) | (simp [*]; done) | omega | (simp; omega) | rfl)
      simp only [Act.put, List.setIfInBounds_toArray, List.set_cons_zero, List.set_cons_succ]
      refine qw_run (v := .int .i64 u) (by rfl) ?_ ?_
      · (intro w1 hC; have f0 := (hC.1.p _ _ _ Hy.out).2.2; clear hC; go_simp; first | done | (simp; done) | (simp [*]; done) | omega | (simp; omega) | rfl)
      simp only [Act.put, List.setIfInBounds_toArray, List.set_cons_zero, List.set_cons_succ]
      refine qw_run (v := .int .i64 (q - u)) (by rfl) ?_ ?_
      · (intro w1 hC; clear hC; go_simp; first | done | (simp; done) | (simp [*]; done) | omega | (simp; omega) | rfl)
      simp only [Act.put, List.setIfInBounds_toArray, List.set_cons_zero, List.set_cons_succ]
      refine qw_run (v := .int .i64 (if q - u > A then q - u else A)) (by rfl) ?_ ?_
      · (intro w1 hC; clear hC; go_simp; first | done | (simp; done) | (simp [*]; done) | omega | (simp; omega) | rfl)
      simp only [Act.put, List.setIfInBounds_toArray, List.set_cons_zero, List.set_cons_succ]
      refine qw_run (v := .int .i64 (if q - u > A then q - u else A)) (by rfl) ?_ ?_
      · (intro w1 hC; clear hC; go_simp; first | done | (simp; done) | (simp [*]; done) | omega | (simp; omega) | rfl)
      simp only [Act.put, List.setIfInBounds_toArray, List.set_cons_zero, List.set_cons_succ]
      refine qw_nil ?_
      intro w1 hC
      have HS2 := hidX hC
      clear hC
      go_wp2
      go_roundw
      case rel => exact ⟨k + 1, by omega, by omega, by rw [Hst.out], rfl, HS2⟩
      case measure => simp [intOf]; omega
    · have hke : k = e := by omega
      go_wp2_with fail
      refine KX.mono ?_
      rintro r w2 ⟨rfl, hb⟩
      have HS2 := hidX (keepb hb HS.out.2)
      clear KX HS hb KE
      go_wp2
      exact bodyPost_ret (v := .int .i64 A) (by simp [results, Try.results18, go_sem]) rfl ⟨by rw [HA.out, hke], HS2.out⟩
end
end Go.Proofs.Ytoejhhoniflpeaa
