/-
  Part 16 of the proof: 3 texts, one behind the other.
-/
import Derived.Test.YtofpbommhklooaaPart15
import Derived.Test.YtofpbommhklooaaPart11
import Derived.Test.YtofpbommhklooaaPart8
import Derived.Test.YtofpbommhklooaaPart3
/-
  The document's Find.
-/
namespace Go.Proofs.Ytofpbommhklooaa
open Go.RowKit
set_option linter.unusedSimpArgs false
set_option linter.unusedVariables false
attribute [local go_sem] Oper.semAt_some

/-- Prefixes in order. -/
def SrtP (P : List (BitVec 128 × Int)) : Prop := ∀ (i j : Nat) (x : BitVec 128) (m : Int) (y : BitVec 128) (u : Int), i < j → P[i]? = some (x, m) → P[j]? = some (y, u) → pcmpZ x m y u < 0
/-- What is known while a prefix is looked for. -/
def FdI (P : List (BitVec 128 × Int)) (x : BitVec 128) (pl : Int) (a b : Nat) : Prop := (∀ (i : Nat) (y : BitVec 128) (u : Int), i < a → P[i]? = some (y, u) → pcmpZ y u x pl < 0) ∧ (∀ (i : Nat) (y : BitVec 128) (u : Int), b ≤ i → P[i]? = some (y, u) → ¬ pcmpZ y u x pl < 0)
/-- What Find tells. -/
def FdR (P : List (BitVec 128 × Int)) (x : BitVec 128) (pl : Int) (r : Int) : Prop := (∃ i : Nat, r = (i : Int) ∧ P[i]? = some (x, pl)) ∨ (r = -1 ∧ ∀ i : Nat, P[i]? ≠ some (x, pl))
theorem pcmp_tr {x y z : BitVec 128} {n m k : Int} (h1 : pcmpZ x n y m < 0) (h2 : pcmpZ y m z k < 0) : pcmpZ x n z k < 0 := by
  rw [pcmp_lt] at *; omega
theorem pcmp_self (x : BitVec 128) (n : Int) : ¬ pcmpZ x n x n < 0 := by rw [pcmp_lt]; omega
theorem FdI.lo {P : List (BitVec 128 × Int)} {x y : BitVec 128} {pl u : Int} {a b q : Nat} (hS : SrtP P) (h : FdI P x pl a b) (hq : P[q]? = some (y, u)) (hc : pcmpZ y u x pl < 0) : FdI P x pl (q + 1) b := by
  refine ⟨fun i y2 u2 h1 h2 => ?_, h.2⟩
  by_cases c : i = q
  · subst c
    rw [hq] at h2
    injection h2 with h2
    injection h2 with h2 h3
    subst h2 h3
    exact hc
  · exact pcmp_tr (hS i q _ _ _ _ (by omega) h2 hq) hc
theorem FdI.hi {P : List (BitVec 128 × Int)} {x y : BitVec 128} {pl u : Int} {a b q : Nat} (hS : SrtP P) (h : FdI P x pl a b) (hq : P[q]? = some (y, u)) (hc : ¬ pcmpZ y u x pl < 0) : FdI P x pl a q := by
  refine ⟨h.1, fun i y2 u2 h1 h2 h3 => ?_⟩
  by_cases c : i = q
  · subst c
    rw [hq] at h2
    injection h2 with h2
    injection h2 with h2 h4
    subst h2 h4
    exact hc h3
  · exact hc (pcmp_tr (hS q i _ _ _ _ (by omega) hq h2) h3)
theorem FdI.no {P : List (BitVec 128 × Int)} {x : BitVec 128} {pl : Int} {a : Nat} (hS : SrtP P) (h : FdI P x pl a a) (hn : P[a]? ≠ some (x, pl)) : FdR P x pl (-1) := by
  refine .inr ⟨rfl, fun i hi => ?_⟩
  have c1 : ¬ i < a := fun c => pcmp_self x pl (h.1 i _ _ c hi)
  have c2 : i ≠ a := fun c => hn (c ▸ hi)
  have il : i < P.length := (List.getElem?_eq_some_iff.mp hi).1
  have al : a < P.length := by omega
  have := hS a i P[a].1 P[a].2 x pl (by omega) (by rw [List.getElem?_eq_getElem al]) hi
  exact h.2 a P[a].1 P[a].2 (Nat.le_refl _) (by rw [List.getElem?_eq_getElem al]) this
/-- The tree, the prefix's variable, what stays. -/
def Fd3 (w : World) (D : Nat) (F : Int) (v : Value) (P : List (BitVec 128 × Int)) (Z : List Int) (gp cp gz cz B : Nat) (x : BitVec 128) (pl : Int) (W : World) : Prop := DrT W D F v P Z gp cp gz cz ∧ AtP W B x pl ∧ Below w.heap.size w W
theorem Fd3.below {w W W' : World} {D : Nat} {F : Int} {v : Value} {P : List (BitVec 128 × Int)} {Z : List Int} {gp cp gz cz B : Nat} {x : BitVec 128} {pl : Int} (k : Fd3 w D F v P Z gp cp gz cz B x pl W) (hb : Below W.heap.size W W') : Fd3 w D F v P Z gp cp gz cz B x pl W' := ⟨k.1.below hb, k.2.1.below hb, keepb hb k.2.2⟩
set_option maxRecDepth 100000 in
set_option maxHeartbeats 16000000 in
theorem rfind8_any (D : Nat) (F : Int) (v : Value) (P : List (BitVec 128 × Int)) (Z : List Int) (gp cp gz cz : Nat) (x : BitVec 128) (pl : Int) (w : World) (h : DrT w D F v P Z gp cp gz cz) (hS : SrtP P) (hl : P.length ≤ 1000000000) :
    Calls Try.prog 46 #[.pointer (some ⟨D, 0, none⟩), .agg #[.int .u64 (hI x), .int .u64 (lI x), .int .i64 pl]] w fun r w' => (∃ m, r = .returned (.int .i64 m) ∧ FdR P x pl m) ∧ Below w.heap.size w w' := by
  have KC := fun y u w => rpcmp_any y u x pl w
  have E1 : ∀ y u w, (Op.equalIn 10000 45 (.agg #[.int .u64 (hI y), .int .u64 (lI y), .int .i64 u]) (.agg #[.int .u64 (hI x), .int .u64 (lI x), .int .i64 pl])).run Try.prog w = .ok ((y == x) && (u == pl)) w := fun y u w => eqP_run y u x pl w
  have HS := hidX hS
  have q0 := bl1 w (.cells #[.int .u64 (hI x), .int .u64 (lI x), .int .i64 pl] 45)
  have HE := hidX E1
  have HW : Hid (Fd3 w D F v P Z gp cp gz cz w.heap.size x pl (w.alloc (.cells #[.int .u64 (hI x), .int .u64 (lI x), .int .i64 pl] 45)).drew) := hidX (Fd3.below ⟨h.below q0, atp_new w w.heap.size x pl 45 rfl, q0⟩ (below_drewN (Below.refl _ _) 1))
  have HCb : Hid (∀ W W', Fd3 w D F v P Z gp cp gz cz w.heap.size x pl W → Below W.heap.size W W' → Fd3 w D F v P Z gp cp gz cz w.heap.size x pl W') := hidX (fun W W' a b => a.below b)
  clear h q0 hS E1
  go_enter Try.func46, Try.ntmps46
  go_wp2_with fail
  refine qw_region (C := Fd3 w D F v P Z gp cp gz cz w.heap.size x pl) (by kernel_rfl) (by kernel_rfl) HW.out ?_
  clear HW
  refine qw_run (v := .pointer (some ⟨D, 0, none⟩)) (by rfl) ?_ ?_
  · (intro w1 hC; clear hC; go_simp; first | done | (simp; done) | (simp [*]; done) | omega | (simp; omega) | rfl)
  simp only [Act.put, List.setIfInBounds_toArray, List.set_cons_zero, List.set_cons_succ]
  refine qw_run (v := .pointer (some ⟨D, 0, none⟩)) (by rfl) ?_ ?_
  · (intro w1 hC; clear hC; go_simp; first | done | (simp; done) | (simp [*]; done) | omega | (simp; omega) | rfl)
  simp only [Act.put, List.setIfInBounds_toArray, List.set_cons_zero, List.set_cons_succ]
  refine qw_run (v := .pointer (some ⟨D, 1, none⟩)) (by rfl) ?_ ?_
  · (intro w1 hC; clear hC; go_simp; first | done | (simp; done) | (simp [*]; done) | omega | (simp; omega) | rfl)
  simp only [Act.put, List.setIfInBounds_toArray, List.set_cons_zero, List.set_cons_succ]
  refine qw_run (v := .slice (some ⟨gp, 0, none⟩) P.length cp) (by rfl) ?_ ?_
  · (intro w1 hC; have f0 := hC.1.ps; clear hC; go_simp; first | done | (simp; done) | (simp [*]; done) | omega | (simp; omega) | rfl)
  simp only [Act.put, List.setIfInBounds_toArray, List.set_cons_zero, List.set_cons_succ]
  refine qw_run (v := .int .i64 (P.length : Int)) (by rfl) ?_ ?_
  · (intro w1 hC; clear hC; go_simp; first | done | (simp; done) | (simp [*]; done) | omega | (simp; omega) | rfl)
  simp only [Act.put, List.setIfInBounds_toArray, List.set_cons_zero, List.set_cons_succ]
  refine qw_run (v := .int .i64 0) (by rfl) ?_ ?_
  · (intro w1 hC; clear hC; go_simp; first | done | (simp; done) | (simp [*]; done) | omega | (simp; omega) | rfl)
  simp only [Act.put, List.setIfInBounds_toArray, List.set_cons_zero, List.set_cons_succ]
  refine qw_run (v := .int .i64 (P.length : Int)) (by rfl) ?_ ?_
  · (intro w1 hC; clear hC; go_simp; first | done | (simp; done) | (simp [*]; done) | omega | (simp; omega) | rfl)
  simp only [Act.put, List.setIfInBounds_toArray, List.set_cons_zero, List.set_cons_succ]
  refine qw_nil ?_
  intro w1 hC
  have HW := hidX hC
  clear hC
  revert HCb HW
  generalize w.heap.size = B
  intro HCb HW
  go_wp2_with fail
  go_loopw [5, 6, 7] (fun lo hi _ wr => ∃ a b : Nat, a ≤ b ∧ b ≤ P.length ∧ lo = .int .i64 (a : Int) ∧ hi = .int .i64 (b : Int) ∧ Hid (FdI P x pl a b) ∧ Hid (Fd3 w D F v P Z gp cp gz cz B x pl wr)) (fun lo hi _ _ => (intOf hi).toNat - (intOf lo).toNat)
  case atStart => exact ⟨0, P.length, by omega, by omega, rfl, rfl, hidX ⟨fun i _ _ h => by omega, fun i _ _ h1 h2 => by have := (List.getElem?_eq_some_iff.mp h2).1; omega⟩, HW⟩
  case round =>
    clear HW
    obtain ⟨a, b, hab, hb, rfl, rfl, HI, HW⟩ := hrel
    by_cases hlt : (a : Int) < (b : Int)
    · obtain ⟨q, hq⟩ : ∃ q, q = (a + b) / 2 := ⟨_, rfl⟩
      have w0 : IntKind.i64.wrap ((a : Int) + (b : Int)) = ((a + b : Nat) : Int) := by rw [IntKind.wrap_i64]; push_cast; omega
      have w1 : IntKind.i64.wrap (((a + b : Nat) : Int).tdiv 2) = (q : Int) := by
        rw [Int.tdiv_eq_ediv_of_nonneg (by omega), IntKind.wrap_i64]; omega
      have wq3 : ((a : Int) + (b : Int)) / 2 = (q : Int) := by omega
      have w2 : IntKind.i64.wrap ((q : Int) + 1) = ((q + 1 : Nat) : Int) := by rw [IntKind.wrap_i64]; push_cast; omega
      have q1 : a ≤ q ∧ q < b := by omega
      have hqP : q < P.length := by omega
      obtain ⟨y, u, hy⟩ : ∃ y u, P[q]? = some (y, u) := ⟨P[q].1, P[q].2, by rw [List.getElem?_eq_getElem hqP]⟩
      have Hy := hidX hy
      clear hy hq
      go_wp2_with fail
      have HD := hidX (HCb.out _ _ HW.out (below_drewN (Below.refl _ _) 1))
      have KX := KC y u
      obtain ⟨z, hz⟩ : ∃ z, z = pcmpZ y u x pl := ⟨_, rfl⟩
      rw [← hz] at KX
      have Hz := hidX hz
      clear HW hz KC
      by_cases hz0 : z < 0
      · refine qw_region (C := Fd3 w D F v P Z gp cp gz cz B x pl) (by kernel_rfl) (by kernel_rfl) HD.out ?_
        clear HD
        refine qw_run (v := .pointer (some ⟨D, 0, none⟩)) (by rfl) ?_ ?_
        · (intro w1 hC; clear hC; go_simp; first | done | (simp; done) | (simp [*]; done) | omega | (simp; omega) | rfl)
        simp only [Act.put, List.setIfInBounds_toArray, List.set_cons_zero, List.set_cons_succ]
        refine qw_run (v := .pointer (some ⟨D, 0, none⟩)) (by rfl) ?_ ?_
        · (intro w1 hC; clear hC; go_simp; first | done | (simp; done) | (simp [*]; done) | omega | (simp; omega) | rfl)
        simp only [Act.put, List.setIfInBounds_toArray, List.set_cons_zero, List.set_cons_succ]
        refine qw_run (v := .pointer (some ⟨D, 1, none⟩)) (by rfl) ?_ ?_
        · (intro w1 hC; clear hC; go_simp; first | done | (simp; done) | (simp [*]; done) | omega | (simp; omega) | rfl)
        simp only [Act.put, List.setIfInBounds_toArray, List.set_cons_zero, List.set_cons_succ]
        refine qw_run (v := .slice (some ⟨gp, 0, none⟩) P.length cp) (by rfl) ?_ ?_
        · (intro w1 hC; have f0 := hC.1.ps; clear hC; go_simp; first | done | (simp; done) | (simp [*]; done) | omega | (simp; omega) | rfl)
        simp only [Act.put, List.setIfInBounds_toArray, List.set_cons_zero, List.set_cons_succ]
        refine qw_run (v := .int .i64 (q : Int)) (by rfl) ?_ ?_
        · (intro w1 hC; clear hC; go_simp; first | done | (simp; done) | (simp [*]; done) | omega | (simp; omega) | rfl)
        simp only [Act.put, List.setIfInBounds_toArray, List.set_cons_zero, List.set_cons_succ]
        refine qw_run (v := .pointer (some ⟨gp, q * 3, none⟩)) (by rfl) ?_ ?_
        · (intro w1 hC; clear hC; go_simp; first | done | (simp; done) | (simp [*]; done) | omega | (simp; omega) | rfl)
        simp only [Act.put, List.setIfInBounds_toArray, List.set_cons_zero, List.set_cons_succ]
        refine qw_run (v := .agg #[.int .u64 (hI y), .int .u64 (lI y), .int .i64 u]) (by rfl) ?_ ?_
        · (intro w1 hC; have f0 := (hC.1.p _ _ _ Hy.out).1; have f1 := (hC.1.p _ _ _ Hy.out).2.1; have f2 := (hC.1.p _ _ _ Hy.out).2.2; clear hC; go_simp; first | done | (simp; done) | (simp [*]; done) | omega | (simp; omega) | rfl)
        simp only [Act.put, List.setIfInBounds_toArray, List.set_cons_zero, List.set_cons_succ]
        refine qw_run (v := .agg #[.int .u64 (hI x), .int .u64 (lI x), .int .i64 pl]) (by rfl) ?_ ?_
        · (intro w1 hC; have f0 := hC.2.1.1; have f1 := hC.2.1.2.1; have f2 := hC.2.1.2.2.1; clear hC; go_simp; first | done | (simp; done) | (simp [*]; done) | omega | (simp; omega) | rfl)
        simp only [Act.put, List.setIfInBounds_toArray, List.set_cons_zero, List.set_cons_succ]
        refine qw_call (v := .int .i64 z) (f := 48) (args := #[.agg #[.int .u64 (hI y), .int .u64 (lI y), .int .i64 u], .agg #[.int .u64 (hI x), .int .u64 (lI x), .int .i64 pl]]) (by rfl) ?_ ?_ ?_
        · (intro w1 hC; clear hC; go_simp)
        · exact fun w1 hC => (KX w1).mono fun e w' ⟨he, hb⟩ => ⟨he, HCb.out _ _ hC hb⟩
        simp only [Act.put, List.setIfInBounds_toArray, List.set_cons_zero, List.set_cons_succ]
        refine qw_run (v := .bool true) (by rfl) ?_ ?_
        · (intro w1 hC; clear hC; go_simp; first | done | (simp; done) | (simp [*]; done) | omega | (simp; omega) | rfl)
        simp only [Act.put, List.setIfInBounds_toArray, List.set_cons_zero, List.set_cons_succ]
        refine qw_nil ?_
        clear KX
        intro w3 hC
        have HW := hidX hC
        clear hC
        go_wp2
        go_roundw
        case rel => exact ⟨q + 1, b, by omega, hb, rfl, rfl, hidX (HI.out.lo HS.out Hy.out (by rw [← Hz.out]; exact hz0)), HW⟩
        case measure => simp [intOf]; omega
      · refine qw_region (C := Fd3 w D F v P Z gp cp gz cz B x pl) (by kernel_rfl) (by kernel_rfl) HD.out ?_
        clear HD
        refine qw_run (v := .pointer (some ⟨D, 0, none⟩)) (by rfl) ?_ ?_
        · (intro w1 hC; clear hC; go_simp; first | done | (simp; done) | (simp [*]; done) | omega | (simp; omega) | rfl)
        simp only [Act.put, List.setIfInBounds_toArray, List.set_cons_zero, List.set_cons_succ]
        refine qw_run (v := .pointer (some ⟨D, 0, none⟩)) (by rfl) ?_ ?_
        · (intro w1 hC; clear hC; go_simp; first | done | (simp; done) | (simp [*]; done) | omega | (simp; omega) | rfl)
        simp only [Act.put, List.setIfInBounds_toArray, List.set_cons_zero, List.set_cons_succ]
        refine qw_run (v := .pointer (some ⟨D, 1, none⟩)) (by rfl) ?_ ?_
        · (intro w1 hC; clear hC; go_simp; first | done | (simp; done) | (simp [*]; done) | omega | (simp; omega) | rfl)
        simp only [Act.put, List.setIfInBounds_toArray, List.set_cons_zero, List.set_cons_succ]
        refine qw_run (v := .slice (some ⟨gp, 0, none⟩) P.length cp) (by rfl) ?_ ?_
        · (intro w1 hC; have f0 := hC.1.ps; clear hC; go_simp; first | done | (simp; done) | (simp [*]; done) | omega | (simp; omega) | rfl)
        simp only [Act.put, List.setIfInBounds_toArray, List.set_cons_zero, List.set_cons_succ]
        refine qw_run (v := .int .i64 (q : Int)) (by rfl) ?_ ?_
        · (intro w1 hC; clear hC; go_simp; first | done | (simp; done) | (simp [*]; done) | omega | (simp; omega) | rfl)
        simp only [Act.put, List.setIfInBounds_toArray, List.set_cons_zero, List.set_cons_succ]
        refine qw_run (v := .pointer (some ⟨gp, q * 3, none⟩)) (by rfl) ?_ ?_
        · (intro w1 hC; clear hC; go_simp; first | done | (simp; done) | (simp [*]; done) | omega | (simp; omega) | rfl)
        simp only [Act.put, List.setIfInBounds_toArray, List.set_cons_zero, List.set_cons_succ]
        refine qw_run (v := .agg #[.int .u64 (hI y), .int .u64 (lI y), .int .i64 u]) (by rfl) ?_ ?_
        · (intro w1 hC; have f0 := (hC.1.p _ _ _ Hy.out).1; have f1 := (hC.1.p _ _ _ Hy.out).2.1; have f2 := (hC.1.p _ _ _ Hy.out).2.2; clear hC; go_simp; first | done | (simp; done) | (simp [*]; done) | omega | (simp; omega) | rfl)
        simp only [Act.put, List.setIfInBounds_toArray, List.set_cons_zero, List.set_cons_succ]
        refine qw_run (v := .agg #[.int .u64 (hI x), .int .u64 (lI x), .int .i64 pl]) (by rfl) ?_ ?_
        · (intro w1 hC; have f0 := hC.2.1.1; have f1 := hC.2.1.2.1; have f2 := hC.2.1.2.2.1; clear hC; go_simp; first | done | (simp; done) | (simp [*]; done) | omega | (simp; omega) | rfl)
        simp only [Act.put, List.setIfInBounds_toArray, List.set_cons_zero, List.set_cons_succ]
        refine qw_call (v := .int .i64 z) (f := 48) (args := #[.agg #[.int .u64 (hI y), .int .u64 (lI y), .int .i64 u], .agg #[.int .u64 (hI x), .int .u64 (lI x), .int .i64 pl]]) (by rfl) ?_ ?_ ?_
        · (intro w1 hC; clear hC; go_simp)
        · exact fun w1 hC => (KX w1).mono fun e w' ⟨he, hb⟩ => ⟨he, HCb.out _ _ hC hb⟩
        simp only [Act.put, List.setIfInBounds_toArray, List.set_cons_zero, List.set_cons_succ]
        refine qw_run (v := .bool false) (by rfl) ?_ ?_
        · (intro w1 hC; clear hC; go_simp; first | done | (simp; done) | (simp [*]; done) | omega | (simp; omega) | rfl)
        simp only [Act.put, List.setIfInBounds_toArray, List.set_cons_zero, List.set_cons_succ]
        refine qw_nil ?_
        clear KX
        intro w3 hC
        have HW := hidX hC
        clear hC
        go_wp2
        go_roundw
        case rel => exact ⟨a, q, by omega, by omega, rfl, by rw [wq3], hidX (HI.out.hi HS.out Hy.out (by rw [← Hz.out]; exact hz0)), HW⟩
        case measure => simp [intOf]; omega
    · have hba : b = a := by omega
      subst hba
      clear KC hab
      have HD := hidX (HCb.out _ _ HW.out (below_drewN (Below.refl _ _) 1))
      clear HW
      by_cases hin : (b : Int) < (P.length : Int)
      · obtain ⟨y, u, hy⟩ : ∃ y u, P[b]? = some (y, u) := ⟨P[b].1, P[b].2, by rw [List.getElem?_eq_getElem (by omega)]⟩
        have Hy := hidX hy
        have E2 := HE.out y u
        obtain ⟨t, ht⟩ : ∃ t, t = ((y == x) && (u == pl)) := ⟨_, rfl⟩
        rw [← ht] at E2
        have Ht := hidX ht
        clear hy ht
        go_wp2_with fail
        refine qw_region (C := Fd3 w D F v P Z gp cp gz cz B x pl) (by kernel_rfl) (by kernel_rfl) HD.out ?_
        clear HD
        refine qw_run (v := .int .i64 (b : Int)) (by rfl) ?_ ?_
        · (intro w1 hC; clear hC; go_simp; first | done | (simp; done) | (simp [*]; done) | omega | (simp; omega) | rfl)
        simp only [Act.put, List.setIfInBounds_toArray, List.set_cons_zero, List.set_cons_succ]
        refine qw_run (v := .pointer (some ⟨D, 0, none⟩)) (by rfl) ?_ ?_
        · (intro w1 hC; clear hC; go_simp; first | done | (simp; done) | (simp [*]; done) | omega | (simp; omega) | rfl)
        simp only [Act.put, List.setIfInBounds_toArray, List.set_cons_zero, List.set_cons_succ]
        refine qw_run (v := .pointer (some ⟨D, 0, none⟩)) (by rfl) ?_ ?_
        · (intro w1 hC; clear hC; go_simp; first | done | (simp; done) | (simp [*]; done) | omega | (simp; omega) | rfl)
        simp only [Act.put, List.setIfInBounds_toArray, List.set_cons_zero, List.set_cons_succ]
        refine qw_run (v := .pointer (some ⟨D, 1, none⟩)) (by rfl) ?_ ?_
        · (intro w1 hC; clear hC; go_simp; first | done | (simp; done) | (simp [*]; done) | omega | (simp; omega) | rfl)
        simp only [Act.put, List.setIfInBounds_toArray, List.set_cons_zero, List.set_cons_succ]
        refine qw_run (v := .slice (some ⟨gp, 0, none⟩) P.length cp) (by rfl) ?_ ?_
        · (intro w1 hC; have f0 := hC.1.ps; clear hC; go_simp; first | done | (simp; done) | (simp [*]; done) | omega | (simp; omega) | rfl)
        simp only [Act.put, List.setIfInBounds_toArray, List.set_cons_zero, List.set_cons_succ]
        refine qw_run (v := .int .i64 (P.length : Int)) (by rfl) ?_ ?_
        · (intro w1 hC; clear hC; go_simp; first | done | (simp; done) | (simp [*]; done) | omega | (simp; omega) | rfl)
        simp only [Act.put, List.setIfInBounds_toArray, List.set_cons_zero, List.set_cons_succ]
        refine qw_run (v := .bool true) (by rfl) ?_ ?_
        · (intro w1 hC; clear hC; go_simp; first | done | (simp; done) | (simp [*]; done) | omega | (simp; omega) | rfl)
        simp only [Act.put, List.setIfInBounds_toArray, List.set_cons_zero, List.set_cons_succ]
        refine qw_run (v := .bool true) (by rfl) ?_ ?_
        · (intro w1 hC; clear hC; go_simp; first | done | (simp; done) | (simp [*]; done) | omega | (simp; omega) | rfl)
        simp only [Act.put, List.setIfInBounds_toArray, List.set_cons_zero, List.set_cons_succ]
        refine qw_run (v := .pointer (some ⟨D, 0, none⟩)) (by rfl) ?_ ?_
        · (intro w1 hC; clear hC; go_simp; first | done | (simp; done) | (simp [*]; done) | omega | (simp; omega) | rfl)
        simp only [Act.put, List.setIfInBounds_toArray, List.set_cons_zero, List.set_cons_succ]
        refine qw_run (v := .pointer (some ⟨D, 0, none⟩)) (by rfl) ?_ ?_
        · (intro w1 hC; clear hC; go_simp; first | done | (simp; done) | (simp [*]; done) | omega | (simp; omega) | rfl)
        simp only [Act.put, List.setIfInBounds_toArray, List.set_cons_zero, List.set_cons_succ]
        refine qw_run (v := .pointer (some ⟨D, 1, none⟩)) (by rfl) ?_ ?_
        · (intro w1 hC; clear hC; go_simp; first | done | (simp; done) | (simp [*]; done) | omega | (simp; omega) | rfl)
        simp only [Act.put, List.setIfInBounds_toArray, List.set_cons_zero, List.set_cons_succ]
        refine qw_run (v := .slice (some ⟨gp, 0, none⟩) P.length cp) (by rfl) ?_ ?_
        · (intro w1 hC; have f0 := hC.1.ps; clear hC; go_simp; first | done | (simp; done) | (simp [*]; done) | omega | (simp; omega) | rfl)
        simp only [Act.put, List.setIfInBounds_toArray, List.set_cons_zero, List.set_cons_succ]
        refine qw_run (v := .int .i64 (b : Int)) (by rfl) ?_ ?_
        · (intro w1 hC; clear hC; go_simp; first | done | (simp; done) | (simp [*]; done) | omega | (simp; omega) | rfl)
        simp only [Act.put, List.setIfInBounds_toArray, List.set_cons_zero, List.set_cons_succ]
        refine qw_run (v := .pointer (some ⟨gp, b * 3, none⟩)) (by rfl) ?_ ?_
        · (intro w1 hC; clear hC; go_simp; first | done | (simp; done) | (simp [*]; done) | omega | (simp; omega) | rfl)
        simp only [Act.put, List.setIfInBounds_toArray, List.set_cons_zero, List.set_cons_succ]
        refine qw_run (v := .agg #[.int .u64 (hI y), .int .u64 (lI y), .int .i64 u]) (by rfl) ?_ ?_
        · (intro w1 hC; have f0 := (hC.1.p _ _ _ Hy.out).1; have f1 := (hC.1.p _ _ _ Hy.out).2.1; have f2 := (hC.1.p _ _ _ Hy.out).2.2; clear hC; go_simp; first | done | (simp; done) | (simp [*]; done) | omega | (simp; omega) | rfl)
        simp only [Act.put, List.setIfInBounds_toArray, List.set_cons_zero, List.set_cons_succ]
        refine qw_run (v := .agg #[.int .u64 (hI x), .int .u64 (lI x), .int .i64 pl]) (by rfl) ?_ ?_
        · (intro w1 hC; have f0 := hC.2.1.1; have f1 := hC.2.1.2.1; have f2 := hC.2.1.2.2.1; clear hC; go_simp; first | done | (simp; done) | (simp [*]; done) | omega | (simp; omega) | rfl)
        simp only [Act.put, List.setIfInBounds_toArray, List.set_cons_zero, List.set_cons_succ]
        refine qw_run (v := .bool t) (by rfl) ?_ ?_
        · (intro w1 hC; clear hC; go_simp; first | done | (simp; done) | (simp [*]; done) | omega | (simp; omega) | rfl)
        simp only [Act.put, List.setIfInBounds_toArray, List.set_cons_zero, List.set_cons_succ]
        refine qw_run (v := .bool t) (by rfl) ?_ ?_
        · (intro w1 hC; clear hC; go_simp; first | done | (simp; done) | (simp [*]; done) | omega | (simp; omega) | rfl)
        simp only [Act.put, List.setIfInBounds_toArray, List.set_cons_zero, List.set_cons_succ]
        refine qw_nil ?_
        clear E2
        intro w3 hC
        have HW := hidX hC
        clear hC
        cases t
        · go_wp2
          exact bodyPost_ret (v := .int .i64 (-1)) (by simp [results, Try.results46, go_sem]) rfl ⟨⟨_, rfl, HI.out.no HS.out (fun h => by rw [Hy.out] at h; injection h with h; injection h with h1 h2; have := Ht.out; rw [h1, h2] at this; simp at this)⟩, HW.out.2.2⟩
        · go_wp2
          exact bodyPost_ret (v := .int .i64 (b : Int)) (by simp [results, Try.results46, go_sem]) rfl ⟨⟨_, rfl, .inl ⟨b, rfl, by have := Ht.out.symm; rw [Bool.and_eq_true, beq_iff_eq, beq_iff_eq] at this; rw [Hy.out, this.1, this.2]⟩⟩, HW.out.2.2⟩
      · go_wp2_with fail
        refine qw_region (C := Fd3 w D F v P Z gp cp gz cz B x pl) (by kernel_rfl) (by kernel_rfl) HD.out ?_
        clear HD
        refine qw_run (v := .int .i64 (b : Int)) (by rfl) ?_ ?_
        · (intro w1 hC; clear hC; go_simp; first | done | (simp; done) | (simp [*]; done) | omega | (simp; omega) | rfl)
        simp only [Act.put, List.setIfInBounds_toArray, List.set_cons_zero, List.set_cons_succ]
        refine qw_run (v := .pointer (some ⟨D, 0, none⟩)) (by rfl) ?_ ?_
        · (intro w1 hC; clear hC; go_simp; first | done | (simp; done) | (simp [*]; done) | omega | (simp; omega) | rfl)
        simp only [Act.put, List.setIfInBounds_toArray, List.set_cons_zero, List.set_cons_succ]
        refine qw_run (v := .pointer (some ⟨D, 0, none⟩)) (by rfl) ?_ ?_
        · (intro w1 hC; clear hC; go_simp; first | done | (simp; done) | (simp [*]; done) | omega | (simp; omega) | rfl)
        simp only [Act.put, List.setIfInBounds_toArray, List.set_cons_zero, List.set_cons_succ]
        refine qw_run (v := .pointer (some ⟨D, 1, none⟩)) (by rfl) ?_ ?_
        · (intro w1 hC; clear hC; go_simp; first | done | (simp; done) | (simp [*]; done) | omega | (simp; omega) | rfl)
        simp only [Act.put, List.setIfInBounds_toArray, List.set_cons_zero, List.set_cons_succ]
        refine qw_run (v := .slice (some ⟨gp, 0, none⟩) P.length cp) (by rfl) ?_ ?_
        · (intro w1 hC; have f0 := hC.1.ps; clear hC; go_simp; first | done | (simp; done) | (simp [*]; done) | omega | (simp; omega) | rfl)
        simp only [Act.put, List.setIfInBounds_toArray, List.set_cons_zero, List.set_cons_succ]
        refine qw_run (v := .int .i64 (P.length : Int)) (by rfl) ?_ ?_
        · (intro w1 hC; clear hC; go_simp; first | done | (simp; done) | (simp [*]; done) | omega | (simp; omega) | rfl)
        simp only [Act.put, List.setIfInBounds_toArray, List.set_cons_zero, List.set_cons_succ]
        refine qw_run (v := .bool false) (by rfl) ?_ ?_
        · (intro w1 hC; clear hC; go_simp; first | done | (simp; done) | (simp [*]; done) | omega | (simp; omega) | rfl)
        simp only [Act.put, List.setIfInBounds_toArray, List.set_cons_zero, List.set_cons_succ]
        refine qw_run (v := .bool false) (by rfl) ?_ ?_
        · (intro w1 hC; clear hC; go_simp; first | done | (simp; done) | (simp [*]; done) | omega | (simp; omega) | rfl)
        simp only [Act.put, List.setIfInBounds_toArray, List.set_cons_zero, List.set_cons_succ]
        refine qw_skip (by rfl) ?_
        simp only [Act.put, List.setIfInBounds_toArray, List.set_cons_zero, List.set_cons_succ]
        refine qw_skip (by rfl) ?_
        simp only [Act.put, List.setIfInBounds_toArray, List.set_cons_zero, List.set_cons_succ]
        refine qw_skip (by rfl) ?_
        simp only [Act.put, List.setIfInBounds_toArray, List.set_cons_zero, List.set_cons_succ]
        refine qw_skip (by rfl) ?_
        simp only [Act.put, List.setIfInBounds_toArray, List.set_cons_zero, List.set_cons_succ]
        refine qw_skip (by rfl) ?_
        simp only [Act.put, List.setIfInBounds_toArray, List.set_cons_zero, List.set_cons_succ]
        refine qw_skip (by rfl) ?_
        simp only [Act.put, List.setIfInBounds_toArray, List.set_cons_zero, List.set_cons_succ]
        refine qw_skip (by rfl) ?_
        simp only [Act.put, List.setIfInBounds_toArray, List.set_cons_zero, List.set_cons_succ]
        refine qw_skip (by rfl) ?_
        simp only [Act.put, List.setIfInBounds_toArray, List.set_cons_zero, List.set_cons_succ]
        refine qw_skip (by rfl) ?_
        simp only [Act.put, List.setIfInBounds_toArray, List.set_cons_zero, List.set_cons_succ]
        refine qw_run (v := .bool false) (by rfl) ?_ ?_
        · (intro w1 hC; clear hC; go_simp; first | done | (simp; done) | (simp [*]; done) | omega | (simp; omega) | rfl)
        simp only [Act.put, List.setIfInBounds_toArray, List.set_cons_zero, List.set_cons_succ]
        refine qw_nil ?_
        intro w3 hC
        have HW := hidX hC
        clear hC
        go_wp2
        exact bodyPost_ret (v := .int .i64 (-1)) (by simp [results, Try.results46, go_sem]) rfl ⟨⟨_, rfl, HI.out.no HS.out (fun h => by have := (List.getElem?_eq_some_iff.mp h).1; omega)⟩, HW.out.2.2⟩
end Go.Proofs.Ytofpbommhklooaa
/-
  The document's Count and Height.
-/
namespace Go.Proofs.Ytofpbommhklooaa
open Go.RowKit
set_option linter.unusedSimpArgs false
set_option linter.unusedVariables false
attribute [local go_sem] Oper.semAt_some

theorem cnt_step (L : List Nd) {n k : Nat} (h : n ≤ k) : cntR L n (k + 1 - n) = cntR L n (k - n) + (if 0 < hp L k then 1 else 0) := by
  rw [show k + 1 - n = (k - n) + 1 by omega]
  show _ + (if 0 < hp L (n + (k - n)) then (1 : Int) else 0) = _
  rw [show n + (k - n) = k by omega]
def hgtR (L : List Nd) (n k : Nat) : Int := max 0 (topR L n (k - n) - ln L n)
theorem hgt_step (L : List Nd) {n k : Nat} (h : n ≤ k) : hgtR L n (k + 1) = if ln L k - ln L n > hgtR L n k then ln L k - ln L n else hgtR L n k := by
  unfold hgtR
  rw [show k + 1 - n = (k - n) + 1 by omega]
  show max 0 (max (topR L n (k - n)) (ln L (n + (k - n))) - ln L n) = _
  rw [show n + (k - n) = k by omega]
  omega
theorem hgt_fin (L : List Nd) {n e : Nat} (h : n < e) : hgtR L n e = topR L n (e - n) - ln L n := by
  unfold hgtR
  have := topR_ge L n (e - n) n (Nat.le_refl _) (by omega)
  omega
section
variable (D : Nat) (F : Int) (v : Value) (P : List (BitVec 128 × Int)) (Z : List Int) (gp cp gz cz : Nat)
theorem is_no {n : Int} {m : Nat} (h : ¬ (0 ≤ n ∧ n < m)) : (decide (0 ≤ n) && decide (n < (m : Int))) = false := by
  rw [Bool.and_eq_false_iff, decide_eq_false_iff_not, decide_eq_false_iff_not]; omega
theorem is_yes {n m : Nat} (h : n < m) : (decide (0 ≤ (n : Int)) && decide ((n : Int) < (m : Int))) = true := by
  rw [Bool.and_eq_true, decide_eq_true_eq, decide_eq_true_eq]; omega
end
end Go.Proofs.Ytofpbommhklooaa
/-
  What a call of package prefix's Kids does.
-/
namespace Go.Proofs.Ytofpbommhklooaa
open Go.RowKit
set_option linter.unusedSimpArgs false
set_option linter.unusedVariables false

def kidL (F : Int) (x : BitVec 128) (n : Int) : BitVec 128 := if F ≤ n then 0#128 else x
def kidH (F : Int) (x : BitVec 128) (n : Int) : BitVec 128 := if F ≤ n then 0#128 else x ||| bit1 n
def kidN (F : Int) (n : Int) : Int := if F ≤ n then 0 else n + 1
/-- The prefix, the low kid, and the answers, in memory. -/
def KS (w : World) (x : BitVec 128) (n : Int) (W : World) : Prop := AtP W w.heap.size x n ∧ AtP W (w.heap.size + 1) 0#128 0 ∧ AtP W (w.heap.size + 1 + 1) 0#128 0 ∧ AtP W (w.heap.size + 1 + 1 + 1) x (n + 1) ∧ Below w.heap.size w W
theorem KS.below {w W W' : World} {x : BitVec 128} {n : Int} (h : KS w x n W) (hb : Below W.heap.size W W') : KS w x n W' := ⟨h.1.below hb, h.2.1.below hb, h.2.2.1.below hb, h.2.2.2.1.below hb, keepb hb h.2.2.2.2⟩
theorem KS.al {w W : World} {x : BitVec 128} {n : Int} (h : KS w x n W) (o : Obj) : KS w x n (W.alloc o) := h.below (bl1 W o)
theorem KS.drew {w W : World} {x : BitVec 128} {n : Int} (h : KS w x n W) : KS w x n W.drew := ⟨h.1, h.2.1, h.2.2.1, h.2.2.2.1, h.2.2.2.2.drew⟩
theorem AtP.setO {W : World} {B : Nat} {x : BitVec 128} {n : Int} (h : AtP W B x n) {N : Nat} (hN : ¬ N = B) (u v t : Value) : AtP (((W.setCell ⟨N, 0, none⟩ u).setCell ⟨N, 1, none⟩ v).setCell ⟨N, 2, none⟩ t) B x n := by
  obtain ⟨a0, a1, a2, a3, a4, a5⟩ := h
  have d1 : ¬ B = N := fun e => hN e.symm
  refine ⟨?_, ?_, ?_, ?_, ?_, ?_⟩ <;> simp [go_sem, *]
theorem AtP.set {W : World} {B : Nat} {x : BitVec 128} {n : Int} (h : AtP W B x n) (y : BitVec 128) (m : Int) : AtP (((W.setCell ⟨B, 0, none⟩ (.int .u64 (hI y))).setCell ⟨B, 1, none⟩ (.int .u64 (lI y))).setCell ⟨B, 2, none⟩ (.int .i64 m)) B y m := by
  obtain ⟨a0, a1, a2, a3, a4, a5⟩ := h
  refine ⟨?_, ?_, ?_, ?_, ?_, ?_⟩ <;> simp [go_sem, *]
theorem AtP.lt {W : World} {B : Nat} {x : BitVec 128} {n : Int} (h : AtP W B x n) : B < W.heap.size := cell_in h.1
theorem KS.set {w W : World} {x : BitVec 128} {n : Int} (h : KS w x n W) {N : Nat} (hN : w.heap.size + 1 + 1 + 1 < N) (u v t : Value) : KS w x n (((W.setCell ⟨N, 0, none⟩ u).setCell ⟨N, 1, none⟩ v).setCell ⟨N, 2, none⟩ t) :=
  ⟨h.1.setO (by omega) u v t, h.2.1.setO (by omega) u v t, h.2.2.1.setO (by omega) u v t, h.2.2.2.1.setO (by omega) u v t, bset3 h.2.2.2.2 (by omega) u v t⟩
theorem KS.first (w : World) (x : BitVec 128) (n : Int) : KS w x n ((((w.alloc (.cells #[.int .u64 (hI x), .int .u64 (lI x), .int .i64 n] 45)).alloc (.cells #[.int .u64 0, .int .u64 0, .int .i64 0] 45)).alloc (.cells #[.int .u64 0, .int .u64 0, .int .i64 0] 45)).alloc (.cells #[.int .u64 (hI x), .int .u64 (lI x), .int .i64 (n + 1)] 45)) := by
  refine ⟨?_, ?_, ?_, ?_, (bl3 _ _ _ _).alloc (by simp; omega) _⟩
  · exact (((atp_new w w.heap.size x n 45 rfl).below (bl1 _ _)).below (bl1 _ _)).below (bl1 _ _)
  · exact ((atp_new _ (w.heap.size + 1) 0#128 0 45 (by simp)).below (bl1 _ _)).below (bl1 _ _)
  · exact (atp_new _ (w.heap.size + 1 + 1) 0#128 0 45 (by simp)).below (bl1 _ _)
  · exact atp_new _ (w.heap.size + 1 + 1 + 1) x (n + 1) 45 (by simp)
theorem atp_new0 (w : World) : AtP (w.alloc (.cells #[.int .u64 0, .int .u64 0, .int .i64 0] 45)) w.heap.size 0#128 0 := atp_new w w.heap.size 0#128 0 45 rfl
theorem atp_new0d (w : World) (N : Nat) (h : N = w.heap.size) : AtP (w.alloc (.cells #[.int .u64 0, .int .u64 0, .int .i64 0] 45)).drew N 0#128 0 := atp_new w N 0#128 0 45 h

end Go.Proofs.Ytofpbommhklooaa
