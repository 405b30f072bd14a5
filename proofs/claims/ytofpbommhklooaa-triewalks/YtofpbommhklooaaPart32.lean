/-
  Part 32 of the proof: 1 texts, one behind the other.
-/
import Derived.Test.YtofpbommhklooaaPart28
import Derived.Test.YtofpbommhklooaaPart30
import Derived.Test.YtofpbommhklooaaPart31
/-
  The document's Path and Lookup.
-/
namespace Go.Proofs.Ytofpbommhklooaa
open Go.RowKit
set_option linter.unusedSimpArgs false
set_option linter.unusedVariables false
attribute [local go_sem] Oper.semAt_some

/-- A row of numbers, to be read. -/
def RowI (W : World) (M : Nat) (ao : Option Addr) (A : List Int) : Prop := ∀ j y, A[j]? = some y → ∃ g, ao = some ⟨g, 0, none⟩ ∧ g < M ∧ W.cell? ⟨g, j, none⟩ = some (.int .i64 y)
section
variable {W W' : World} {M : Nat} {ao : Option Addr} {A : List Int}
theorem RowI.below (k : RowI W M ao A) (hb : Below W.heap.size W W') : RowI W' M ao A := fun j y h => by
  obtain ⟨g, h1, h2, h3⟩ := k j y h
  exact ⟨g, h1, h2, keepc hb h3⟩
theorem RowI.kept (k : RowI W M ao A) {row : Option Nat} (hg : W.grownBy W' row) (hr : ∀ r, row = some r → ∃ o : Obj, W.heap[r]? = some o ∧ o.isCells = false) : RowI W' M ao A := fun j y h => by
  obtain ⟨g, h1, h2, h3⟩ := k j y h
  exact ⟨g, h1, h2, cell_kept h3 hg hr⟩
theorem RowI.set (k : RowI W M ao A) {z o : Nat} (u : Value) (hz : M ≤ z) : RowI (W.setCell ⟨z, o, none⟩ u) M ao A := fun j y h => by
  obtain ⟨g, h1, h2, h3⟩ := k j y h
  exact ⟨g, h1, h2, (World.cell?_of_block (a := ⟨g, j, none⟩) (setB u (show ¬ g = z by omega))).trans h3⟩
theorem own_rowI {base : Nat} {lv : Value} (h : W.ownsRow base 3 1 lv A.length (rowZ A)) : ∃ ao c, lv = .slice ao A.length c ∧ RowI W W.heap.size ao A := by
  rcases h.2 with ⟨e0, e1⟩ | ⟨g, cap, cur, e0, -⟩
  · refine ⟨none, 0, by rw [e0, e1], fun j y hj => ?_⟩
    have := (List.getElem?_eq_some_iff.mp hj).1; omega
  · refine ⟨_, _, e0, fun j y hj => ?_⟩
    subst e0
    obtain ⟨hl, e⟩ := List.getElem?_eq_some_iff.mp hj
    have := rowZ_get A j hl
    rw [e] at this
    have c := (cells8 h this).1
    exact ⟨g, rfl, cell_in c, c⟩
end
theorem right_zero8 {F : Int} {x : BitVec 128} (hf : fam F = true) (h0 : 0 ≤ F) : rightE F x = 0 ↔ checkE F x F = 0 := by
  constructor
  · intro h
    unfold rightE at h
    rw [if_pos hf] at h
    exact chkIn8 hf h0 (Int.le_refl _) (show x &&& maskW F = x from Classical.byContradiction fun q => by rw [if_neg q] at h; omega)
  · intro h
    obtain ⟨-, -, -, q⟩ := check_out h
    unfold rightE
    rw [if_pos hf, if_pos (show x &&& maskW F = x from q)]
section
variable {F : Int} {l : List Rte} {ws : List (BitVec 128)} {L : List Nd} {P : List (BitVec 128 × Int)} {Z : List Int} {D gp cp gz cz : Nat}
set_option maxRecDepth 20000 in
set_option maxHeartbeats 8000000 in
theorem rlook8_no (v : Value) (x : BitVec 128) (w : World) (h : DrT w D F v P Z gp cp gz cz) (hr : ¬ rightE F x = 0) :
    Calls Try.prog 9 #[.pointer (some ⟨D, 0, none⟩), .agg #[.int .u64 (hI x), .int .u64 (lI x)]] w fun e w' => e = .returned (.int .i64 0) ∧ Below w.heap.size w w' := by
  have q1 := bl1 w (.cells #[.int .u64 (hI x), .int .u64 (lI x)] 27)
  obtain ⟨a0, a1, -⟩ := at_new w w.heap.size x 27 rfl
  have q2 := below_drewN (Below.refl (w.alloc (.cells #[.int .u64 (hI x), .int .u64 (lI x)] 27)).heap.size (w.alloc (.cells #[.int .u64 (hI x), .int .u64 (lI x)] 27))) 1
  have HC : Hid (∀ X, X = (w.alloc (.cells #[.int .u64 (hI x), .int .u64 (lI x)] 27)).drew → (DrT X D F v P Z gp cp gz cz ∧ (X.cell? ⟨w.heap.size, 0, none⟩ = some (.int .u64 (hI x)) ∧ X.cell? ⟨w.heap.size, 1, none⟩ = some (.int .u64 (lI x))) ∧ Below w.heap.size w X)) := hidX (by rintro X rfl; exact ⟨(h.below q1).below q2, ⟨keepc q2 a0, keepc q2 a1⟩, keepb q2 q1⟩)
  have HCb : Hid (∀ X Y, (DrT X D F v P Z gp cp gz cz ∧ (X.cell? ⟨w.heap.size, 0, none⟩ = some (.int .u64 (hI x)) ∧ X.cell? ⟨w.heap.size, 1, none⟩ = some (.int .u64 (lI x))) ∧ Below w.heap.size w X) → Below X.heap.size X Y → (DrT Y D F v P Z gp cp gz cz ∧ (Y.cell? ⟨w.heap.size, 0, none⟩ = some (.int .u64 (hI x)) ∧ Y.cell? ⟨w.heap.size, 1, none⟩ = some (.int .u64 (lI x))) ∧ Below w.heap.size w Y)) := hidX (fun X Y a b => ⟨a.1.below b, ⟨keepc b a.2.1.1, keepc b a.2.1.2⟩, keepb b a.2.2⟩)
  have KR := fun w => rright_any F x w
  revert KR hr
  generalize rightE F x = z
  intro hr KR
  clear q1 q2 a0 a1 h
  go_enter Try.func9, Try.ntmps9
  go_wp2_with fail
  refine qw_region (C := fun X => (DrT X D F v P Z gp cp gz cz ∧ (X.cell? ⟨w.heap.size, 0, none⟩ = some (.int .u64 (hI x)) ∧ X.cell? ⟨w.heap.size, 1, none⟩ = some (.int .u64 (lI x))) ∧ Below w.heap.size w X)) (by kernel_rfl) (by kernel_rfl) (HC.out _ rfl) ?_
  clear HC
  refine qw_run (v := .pointer (some ⟨D, 0, none⟩)) (by rfl) ?_ ?_
  · (intro w1 hC; clear hC; go_simp; first | done | (simp; done) | (simp [*]; done) | omega | (simp; omega) | rfl)
  simp only [Act.put, List.setIfInBounds_toArray, List.set_cons_zero, List.set_cons_succ]
  refine qw_run (v := .pointer (some ⟨D, 0, none⟩)) (by rfl) ?_ ?_
  · (intro w1 hC; clear hC; go_simp; first | done | (simp; done) | (simp [*]; done) | omega | (simp; omega) | rfl)
  simp only [Act.put, List.setIfInBounds_toArray, List.set_cons_zero, List.set_cons_succ]
  refine qw_run (v := .pointer (some ⟨D, 0, none⟩)) (by rfl) ?_ ?_
  · (intro w1 hC; clear hC; go_simp; first | done | (simp; done) | (simp [*]; done) | omega | (simp; omega) | rfl)
  simp only [Act.put, List.setIfInBounds_toArray, List.set_cons_zero, List.set_cons_succ]
  refine qw_run (v := .int .i64 F) (by rfl) ?_ ?_
  · (intro w1 hC; have f0 := (hC.1).f; clear hC; go_simp; first | done | (simp; done) | (simp [*]; done) | omega | (simp; omega) | rfl)
  simp only [Act.put, List.setIfInBounds_toArray, List.set_cons_zero, List.set_cons_succ]
  refine qw_run (v := .agg #[.int .u64 (hI x), .int .u64 (lI x)]) (by rfl) ?_ ?_
  · (intro w1 hC; have f0 := hC.2.1.1; have f1 := hC.2.1.2; clear hC; go_simp; first | done | (simp; done) | (simp [*]; done) | omega | (simp; omega) | rfl)
  simp only [Act.put, List.setIfInBounds_toArray, List.set_cons_zero, List.set_cons_succ]
  refine qw_call (v := .int .i64 z) (f := 25) (args := #[.int .i64 F, .agg #[.int .u64 (hI x), .int .u64 (lI x)]]) (by rfl) ?_ ?_ ?_
  · (intro w1 hC; clear hC; go_simp)
  · exact fun w1 hC => (KR w1).mono fun e w' ⟨he, hb⟩ => ⟨he, HCb.out _ _ hC hb⟩
  simp only [Act.put, List.setIfInBounds_toArray, List.set_cons_zero, List.set_cons_succ]
  refine qw_run (v := .bool true) (by rfl) ?_ ?_
  · (intro w1 hC; clear hC; go_simp; first | done | (simp; done) | (simp [*]; done) | omega | (simp; omega) | rfl)
  simp only [Act.put, List.setIfInBounds_toArray, List.set_cons_zero, List.set_cons_succ]
  refine qw_nil ?_
  intro w2 hC
  have HB := hidX hC.2.2
  clear hC HCb KR
  go_wp2
  exact bodyPost_ret (v := .int .i64 0) (by simp [results, Try.results9, go_sem]) rfl ⟨rfl, HB.out⟩
set_option maxRecDepth 20000 in
set_option maxHeartbeats 8000000 in
theorem rlook8_yes (v : Value) (x : BitVec 128) (w : World) (h : DrT w D F v P Z gp cp gz cz) (hr : rightE F x = 0) (hv : RwR w v l) (hl : l.length ≤ 1000000000) (hL : ∀ r ∈ l, 0 ≤ r.1.2 ∧ r.1.2 ≤ 128 ∧ cutW r.1.1 r.1.2 = r.1.1) :
    Calls Try.prog 9 #[.pointer (some ⟨D, 0, none⟩), .agg #[.int .u64 (hI x), .int .u64 (lI x)]] w fun e w' => e = .returned (.int .i64 (hopM (mat x none l))) ∧ Below w.heap.size w w' := by
  have q1 := bl1 w (.cells #[.int .u64 (hI x), .int .u64 (lI x)] 27)
  obtain ⟨a0, a1, -⟩ := at_new w w.heap.size x 27 rfl
  have q2 := below_drewN (Below.refl (w.alloc (.cells #[.int .u64 (hI x), .int .u64 (lI x)] 27)).heap.size (w.alloc (.cells #[.int .u64 (hI x), .int .u64 (lI x)] 27))) 1
  have HC : Hid (∀ X, X = (w.alloc (.cells #[.int .u64 (hI x), .int .u64 (lI x)] 27)).drew → (DrT X D F v P Z gp cp gz cz ∧ (X.cell? ⟨w.heap.size, 0, none⟩ = some (.int .u64 (hI x)) ∧ X.cell? ⟨w.heap.size, 1, none⟩ = some (.int .u64 (lI x))) ∧ Below w.heap.size w X)) := hidX (by rintro X rfl; exact ⟨(h.below q1).below q2, ⟨keepc q2 a0, keepc q2 a1⟩, keepb q2 q1⟩)
  have HCb : Hid (∀ X Y, (DrT X D F v P Z gp cp gz cz ∧ (X.cell? ⟨w.heap.size, 0, none⟩ = some (.int .u64 (hI x)) ∧ X.cell? ⟨w.heap.size, 1, none⟩ = some (.int .u64 (lI x))) ∧ Below w.heap.size w X) → Below X.heap.size X Y → (DrT Y D F v P Z gp cp gz cz ∧ (Y.cell? ⟨w.heap.size, 0, none⟩ = some (.int .u64 (hI x)) ∧ Y.cell? ⟨w.heap.size, 1, none⟩ = some (.int .u64 (lI x))) ∧ Below w.heap.size w Y)) := hidX (fun X Y a b => ⟨a.1.below b, ⟨keepc b a.2.1.1, keepc b a.2.1.2⟩, keepb b a.2.2⟩)
  have KR := fun w => rright_any F x w
  rw [hr] at KR
  have HV := hidX hv
  have HKL : Hid (∀ X, Below w.heap.size w X → Calls Try.prog 14 #[.agg #[.int .i64 F, v], .agg #[.int .u64 (hI x), .int .u64 (lI x)]] X fun e w' => e = .returned (.int .i64 (hopM (mat x none l))) ∧ Below X.heap.size X w') := hidX (fun X hX => rlookup_any F x v l X (HV.out.below hX) hl hL)
  revert HKL
  generalize hopM (mat x none l) = hm
  intro HKL
  obtain ⟨ao, c, rfl, -⟩ := hv
  clear q1 q2 a0 a1 h hL
  go_enter Try.func9, Try.ntmps9
  go_wp2_with fail
  refine qw_region (C := fun X => (DrT X D F (.slice ao l.length c) P Z gp cp gz cz ∧ (X.cell? ⟨w.heap.size, 0, none⟩ = some (.int .u64 (hI x)) ∧ X.cell? ⟨w.heap.size, 1, none⟩ = some (.int .u64 (lI x))) ∧ Below w.heap.size w X)) (by kernel_rfl) (by kernel_rfl) (HC.out _ rfl) ?_
  clear HC
  refine qw_run (v := .pointer (some ⟨D, 0, none⟩)) (by rfl) ?_ ?_
  · (intro w1 hC; clear hC; go_simp; first | done | (simp; done) | (simp [*]; done) | omega | (simp; omega) | rfl)
  simp only [Act.put, List.setIfInBounds_toArray, List.set_cons_zero, List.set_cons_succ]
  refine qw_run (v := .pointer (some ⟨D, 0, none⟩)) (by rfl) ?_ ?_
  · (intro w1 hC; clear hC; go_simp; first | done | (simp; done) | (simp [*]; done) | omega | (simp; omega) | rfl)
  simp only [Act.put, List.setIfInBounds_toArray, List.set_cons_zero, List.set_cons_succ]
  refine qw_run (v := .pointer (some ⟨D, 0, none⟩)) (by rfl) ?_ ?_
  · (intro w1 hC; clear hC; go_simp; first | done | (simp; done) | (simp [*]; done) | omega | (simp; omega) | rfl)
  simp only [Act.put, List.setIfInBounds_toArray, List.set_cons_zero, List.set_cons_succ]
  refine qw_run (v := .int .i64 F) (by rfl) ?_ ?_
  · (intro w1 hC; have f0 := (hC.1).f; clear hC; go_simp; first | done | (simp; done) | (simp [*]; done) | omega | (simp; omega) | rfl)
  simp only [Act.put, List.setIfInBounds_toArray, List.set_cons_zero, List.set_cons_succ]
  refine qw_run (v := .agg #[.int .u64 (hI x), .int .u64 (lI x)]) (by rfl) ?_ ?_
  · (intro w1 hC; have f0 := hC.2.1.1; have f1 := hC.2.1.2; clear hC; go_simp; first | done | (simp; done) | (simp [*]; done) | omega | (simp; omega) | rfl)
  simp only [Act.put, List.setIfInBounds_toArray, List.set_cons_zero, List.set_cons_succ]
  refine qw_call (v := .int .i64 0) (f := 25) (args := #[.int .i64 F, .agg #[.int .u64 (hI x), .int .u64 (lI x)]]) (by rfl) ?_ ?_ ?_
  · (intro w1 hC; clear hC; go_simp)
  · exact fun w1 hC => (KR w1).mono fun e w' ⟨he, hb⟩ => ⟨he, HCb.out _ _ hC hb⟩
  simp only [Act.put, List.setIfInBounds_toArray, List.set_cons_zero, List.set_cons_succ]
  refine qw_run (v := .bool false) (by rfl) ?_ ?_
  · (intro w1 hC; clear hC; go_simp; first | done | (simp; done) | (simp [*]; done) | omega | (simp; omega) | rfl)
  simp only [Act.put, List.setIfInBounds_toArray, List.set_cons_zero, List.set_cons_succ]
  refine qw_nil ?_
  intro w2 hC
  have HC := hidX (HCb.out _ _ hC (below_drewN (Below.refl _ _) 1))
  clear hC
  go_wp2_with fail
  refine qw_region (C := fun X => (DrT X D F (.slice ao l.length c) P Z gp cp gz cz ∧ (X.cell? ⟨w.heap.size, 0, none⟩ = some (.int .u64 (hI x)) ∧ X.cell? ⟨w.heap.size, 1, none⟩ = some (.int .u64 (lI x))) ∧ Below w.heap.size w X)) (by kernel_rfl) (by kernel_rfl) HC.out ?_
  clear HC
  refine qw_run (v := .pointer (some ⟨D, 0, none⟩)) (by rfl) ?_ ?_
  · (intro w1 hC; clear hC; go_simp; first | done | (simp; done) | (simp [*]; done) | omega | (simp; omega) | rfl)
  simp only [Act.put, List.setIfInBounds_toArray, List.set_cons_zero, List.set_cons_succ]
  refine qw_run (v := .pointer (some ⟨D, 0, none⟩)) (by rfl) ?_ ?_
  · (intro w1 hC; clear hC; go_simp; first | done | (simp; done) | (simp [*]; done) | omega | (simp; omega) | rfl)
  simp only [Act.put, List.setIfInBounds_toArray, List.set_cons_zero, List.set_cons_succ]
  refine qw_run (v := .pointer (some ⟨D, 3, none⟩)) (by rfl) ?_ ?_
  · (intro w1 hC; clear hC; go_simp; first | done | (simp; done) | (simp [*]; done) | omega | (simp; omega) | rfl)
  simp only [Act.put, List.setIfInBounds_toArray, List.set_cons_zero, List.set_cons_succ]
  refine qw_run (v := .agg #[.int .i64 F, .slice ao l.length c]) (by rfl) ?_ ?_
  · (intro w1 hC; have f0 := hC.1.tf; have f1 := hC.1.tv; clear hC; go_simp; first | done | (simp; done) | (simp [*]; done) | omega | (simp; omega) | rfl)
  simp only [Act.put, List.setIfInBounds_toArray, List.set_cons_zero, List.set_cons_succ]
  refine qw_run (v := .agg #[.int .u64 (hI x), .int .u64 (lI x)]) (by rfl) ?_ ?_
  · (intro w1 hC; have f0 := hC.2.1.1; have f1 := hC.2.1.2; clear hC; go_simp; first | done | (simp; done) | (simp [*]; done) | omega | (simp; omega) | rfl)
  simp only [Act.put, List.setIfInBounds_toArray, List.set_cons_zero, List.set_cons_succ]
  refine qw_call (v := .int .i64 hm) (f := 14) (args := #[.agg #[.int .i64 F, .slice ao l.length c], .agg #[.int .u64 (hI x), .int .u64 (lI x)]]) (by rfl) ?_ ?_ ?_
  · (intro w1 hC; clear hC; go_simp)
  · exact fun w1 hC => (HKL.out w1 hC.2.2).mono fun e w' ⟨he, hb⟩ => ⟨he, HCb.out _ _ hC hb⟩
  simp only [Act.put, List.setIfInBounds_toArray, List.set_cons_zero, List.set_cons_succ]
  refine qw_run (v := .int .i64 hm) (by rfl) ?_ ?_
  · (intro w1 hC; clear hC; go_simp; first | done | (simp; done) | (simp [*]; done) | omega | (simp; omega) | rfl)
  simp only [Act.put, List.setIfInBounds_toArray, List.set_cons_zero, List.set_cons_succ]
  refine qw_nil ?_
  intro w3 hC
  have HB := hidX hC.2.2
  clear hC HCb KR HKL
  go_wp2
  exact bodyPost_ret (v := .int .i64 hm) (by simp [results, Try.results9, go_sem]) rfl ⟨rfl, HB.out⟩
set_option maxRecDepth 20000 in
set_option maxHeartbeats 8000000 in
theorem rpath8_no (v : Value) (x : BitVec 128) (w : World) (h : DrT w D F v P Z gp cp gz cz) (hr : ¬ rightE F x = 0) :
    Calls Try.prog 10 #[.pointer (some ⟨D, 0, none⟩), .agg #[.int .u64 (hI x), .int .u64 (lI x)]] w fun e w' => e = .returned (.slice none 0 0) ∧ Below w.heap.size w w' := by
  have q1 := bl1 w (.cells #[.int .u64 (hI x), .int .u64 (lI x)] 27)
  obtain ⟨a0, a1, -⟩ := at_new w w.heap.size x 27 rfl
  have q2 := below_drewN (Below.refl (w.alloc (.cells #[.int .u64 (hI x), .int .u64 (lI x)] 27)).heap.size (w.alloc (.cells #[.int .u64 (hI x), .int .u64 (lI x)] 27))) 1
  have HC : Hid (∀ X, X = (w.alloc (.cells #[.int .u64 (hI x), .int .u64 (lI x)] 27)).drew → (DrT X D F v P Z gp cp gz cz ∧ (X.cell? ⟨w.heap.size, 0, none⟩ = some (.int .u64 (hI x)) ∧ X.cell? ⟨w.heap.size, 1, none⟩ = some (.int .u64 (lI x))) ∧ Below w.heap.size w X)) := hidX (by rintro X rfl; exact ⟨(h.below q1).below q2, ⟨keepc q2 a0, keepc q2 a1⟩, keepb q2 q1⟩)
  have HCb : Hid (∀ X Y, (DrT X D F v P Z gp cp gz cz ∧ (X.cell? ⟨w.heap.size, 0, none⟩ = some (.int .u64 (hI x)) ∧ X.cell? ⟨w.heap.size, 1, none⟩ = some (.int .u64 (lI x))) ∧ Below w.heap.size w X) → Below X.heap.size X Y → (DrT Y D F v P Z gp cp gz cz ∧ (Y.cell? ⟨w.heap.size, 0, none⟩ = some (.int .u64 (hI x)) ∧ Y.cell? ⟨w.heap.size, 1, none⟩ = some (.int .u64 (lI x))) ∧ Below w.heap.size w Y)) := hidX (fun X Y a b => ⟨a.1.below b, ⟨keepc b a.2.1.1, keepc b a.2.1.2⟩, keepb b a.2.2⟩)
  have KR := fun w => rright_any F x w
  revert KR hr
  generalize rightE F x = z
  intro hr KR
  clear q1 q2 a0 a1 h
  go_enter Try.func10, Try.ntmps10
  go_wp2_with fail
  refine qw_region (C := fun X => (DrT X D F v P Z gp cp gz cz ∧ (X.cell? ⟨w.heap.size, 0, none⟩ = some (.int .u64 (hI x)) ∧ X.cell? ⟨w.heap.size, 1, none⟩ = some (.int .u64 (lI x))) ∧ Below w.heap.size w X)) (by kernel_rfl) (by kernel_rfl) (HC.out _ rfl) ?_
  clear HC
  refine qw_run (v := .pointer (some ⟨D, 0, none⟩)) (by rfl) ?_ ?_
  · (intro w1 hC; clear hC; go_simp; first | done | (simp; done) | (simp [*]; done) | omega | (simp; omega) | rfl)
  simp only [Act.put, List.setIfInBounds_toArray, List.set_cons_zero, List.set_cons_succ]
  refine qw_run (v := .pointer (some ⟨D, 0, none⟩)) (by rfl) ?_ ?_
  · (intro w1 hC; clear hC; go_simp; first | done | (simp; done) | (simp [*]; done) | omega | (simp; omega) | rfl)
  simp only [Act.put, List.setIfInBounds_toArray, List.set_cons_zero, List.set_cons_succ]
  refine qw_run (v := .pointer (some ⟨D, 0, none⟩)) (by rfl) ?_ ?_
  · (intro w1 hC; clear hC; go_simp; first | done | (simp; done) | (simp [*]; done) | omega | (simp; omega) | rfl)
  simp only [Act.put, List.setIfInBounds_toArray, List.set_cons_zero, List.set_cons_succ]
  refine qw_run (v := .int .i64 F) (by rfl) ?_ ?_
  · (intro w1 hC; have f0 := (hC.1).f; clear hC; go_simp; first | done | (simp; done) | (simp [*]; done) | omega | (simp; omega) | rfl)
  simp only [Act.put, List.setIfInBounds_toArray, List.set_cons_zero, List.set_cons_succ]
  refine qw_run (v := .agg #[.int .u64 (hI x), .int .u64 (lI x)]) (by rfl) ?_ ?_
  · (intro w1 hC; have f0 := hC.2.1.1; have f1 := hC.2.1.2; clear hC; go_simp; first | done | (simp; done) | (simp [*]; done) | omega | (simp; omega) | rfl)
  simp only [Act.put, List.setIfInBounds_toArray, List.set_cons_zero, List.set_cons_succ]
  refine qw_call (v := .int .i64 z) (f := 25) (args := #[.int .i64 F, .agg #[.int .u64 (hI x), .int .u64 (lI x)]]) (by rfl) ?_ ?_ ?_
  · (intro w1 hC; clear hC; go_simp)
  · exact fun w1 hC => (KR w1).mono fun e w' ⟨he, hb⟩ => ⟨he, HCb.out _ _ hC hb⟩
  simp only [Act.put, List.setIfInBounds_toArray, List.set_cons_zero, List.set_cons_succ]
  refine qw_run (v := .bool true) (by rfl) ?_ ?_
  · (intro w1 hC; clear hC; go_simp; first | done | (simp; done) | (simp [*]; done) | omega | (simp; omega) | rfl)
  simp only [Act.put, List.setIfInBounds_toArray, List.set_cons_zero, List.set_cons_succ]
  refine qw_nil ?_
  intro w2 hC
  have HB := hidX hC.2.2
  clear hC HCb KR
  go_wp2
  exact bodyPost_ret (v := .slice none 0 0) (by simp [results, Try.results10, go_sem]) rfl ⟨rfl, HB.out⟩
set_option maxRecDepth 100000 in
set_option maxHeartbeats 16000000 in
theorem rpath8_yes (c : Ctx F l ws L) (d : Dc ws L P Z) (v : Value) (x : BitVec 128) (N : Nat) (hN : WayTo L x N 0) (hNl : N ≤ 1000000) (w : World) (h : DrT w D F v P Z gp cp gz cz) (hr : rightE F x = 0) :
    Calls Try.prog 10 #[.pointer (some ⟨D, 0, none⟩), .agg #[.int .u64 (hI x), .int .u64 (lI x)]] w fun r w' => (∃ lv base, r = .returned lv ∧ w'.ownsRow base 3 1 lv (wayL L x N 0).length (rowZ (wayL L x N 0))) ∧ Below w.heap.size w w' := by
  obtain ⟨j0, ji, jz0, jz1, jz2⟩ := info_of Try.infoI8
  have q1 := bl1 w (.cells #[.int .u64 (hI x), .int .u64 (lI x)] 27)
  obtain ⟨a0, a1, -⟩ := at_new w w.heap.size x 27 rfl
  obtain ⟨U, hU⟩ : ∃ U, U = w.alloc (.cells #[.int .u64 (hI x), .int .u64 (lI x)] 27) := ⟨_, rfl⟩
  rw [← hU] at q1 a0 a1
  have HD0 := hidX (h.below q1)
  have HX0 := hidX (And.intro a0 a1)
  have HQ1 := hidX q1
  have HC : Hid (Below U.heap.size U U.drew) := hidX (below_drewN (Below.refl _ _) 1)
  have HCb : Hid (∀ X Y, Below U.heap.size U X → Below X.heap.size X Y → Below U.heap.size U Y) := hidX (fun X Y a b => keepb b a)
  have HCD : Hid (∀ X, Below U.heap.size U X → DrT X D F v P Z gp cp gz cz) := hidX (fun X a => HD0.out.below a)
  have HCX : Hid (∀ X, Below U.heap.size U X → X.cell? ⟨w.heap.size, 0, none⟩ = some (.int .u64 (hI x)) ∧ X.cell? ⟨w.heap.size, 1, none⟩ = some (.int .u64 (lI x))) := hidX (fun X a => ⟨keepc a HX0.out.1, keepc a HX0.out.2⟩)
  have KR := fun w => rright_any F x w
  rw [hr] at KR
  have HKB := hidX (fun w i => rbit_any x i w)
  have HKK := hidX (fun w h n b => rkid8_eq (D := D) (v := v) (gp := gp) (cp := cp) (gz := gz) (cz := cz) c d n b w h)
  have Hp := hidX d
  have Hc := hidX c
  obtain ⟨mu, hmu⟩ := muW_ex L x
  have Hmu := hidX hmu
  have HN := hidX hN
  clear q1 a0 a1 h hmu hN HD0 HX0 c d
  go_enter Try.func10, Try.ntmps10
  go_wp2_with fail
  rw [← hU]
  clear hU
  refine qw_region (C := fun X => Below U.heap.size U X) (by kernel_rfl) (by kernel_rfl) HC.out ?_
  clear HC
  refine qw_run (v := .pointer (some ⟨D, 0, none⟩)) (by rfl) ?_ ?_
  · (intro w1 hC; clear hC; go_simp; first | done | (simp; done) | (simp [*]; done) | omega | (simp; omega) | rfl)
  simp only [Act.put, List.setIfInBounds_toArray, List.set_cons_zero, List.set_cons_succ]
  refine qw_run (v := .pointer (some ⟨D, 0, none⟩)) (by rfl) ?_ ?_
  · (intro w1 hC; clear hC; go_simp; first | done | (simp; done) | (simp [*]; done) | omega | (simp; omega) | rfl)
  simp only [Act.put, List.setIfInBounds_toArray, List.set_cons_zero, List.set_cons_succ]
  refine qw_run (v := .pointer (some ⟨D, 0, none⟩)) (by rfl) ?_ ?_
  · (intro w1 hC; clear hC; go_simp; first | done | (simp; done) | (simp [*]; done) | omega | (simp; omega) | rfl)
  simp only [Act.put, List.setIfInBounds_toArray, List.set_cons_zero, List.set_cons_succ]
  refine qw_run (v := .int .i64 F) (by rfl) ?_ ?_
  · (intro w1 hC; have f0 := (HCD.out _ hC).f; clear hC; go_simp; first | done | (simp; done) | (simp [*]; done) | omega | (simp; omega) | rfl)
  simp only [Act.put, List.setIfInBounds_toArray, List.set_cons_zero, List.set_cons_succ]
  refine qw_run (v := .agg #[.int .u64 (hI x), .int .u64 (lI x)]) (by rfl) ?_ ?_
  · (intro w1 hC; have f0 := (HCX.out _ hC).1; have f1 := (HCX.out _ hC).2; clear hC; go_simp; first | done | (simp; done) | (simp [*]; done) | omega | (simp; omega) | rfl)
  simp only [Act.put, List.setIfInBounds_toArray, List.set_cons_zero, List.set_cons_succ]
  refine qw_call (v := .int .i64 0) (f := 25) (args := #[.int .i64 F, .agg #[.int .u64 (hI x), .int .u64 (lI x)]]) (by rfl) ?_ ?_ ?_
  · (intro w1 hC; clear hC; go_simp)
  · exact fun w1 hC => (KR w1).mono fun e w' ⟨he, hb⟩ => ⟨he, HCb.out _ _ hC hb⟩
  simp only [Act.put, List.setIfInBounds_toArray, List.set_cons_zero, List.set_cons_succ]
  refine qw_run (v := .bool false) (by rfl) ?_ ?_
  · (intro w1 hC; clear hC; go_simp; first | done | (simp; done) | (simp [*]; done) | omega | (simp; omega) | rfl)
  simp only [Act.put, List.setIfInBounds_toArray, List.set_cons_zero, List.set_cons_succ]
  refine qw_nil ?_
  intro w2 hC
  have HS := hidX hC
  clear hC KR
  go_wp2_with fail
  go_loopw [5, 6] (fun lv9 i wr => ∃ (m : Nat) (n : Int) (A : List Int) (lw : Value), lw = lv9 ∧ Hid (m ≤ N ∧ A.length + m = N ∧ A ++ wayL L x m n = wayL L x N 0) ∧ Hid (WayTo L x m n) ∧ Hid (wr.ownsRow U.heap.size 3 1 lw A.length (rowZ A)) ∧ i = .int .i64 n ∧ Hid (Below U.heap.size U wr)) (fun _ i _ => mu i)
  case atStart => exact ⟨N, 0, [], _, rfl, hidX ⟨Nat.le_refl _, by simp, rfl⟩, HN, hidX ⟨rfl, .inl ⟨rfl, rfl⟩⟩, rfl, HS⟩
  case round =>
    clear HS
    obtain ⟨m, n, A, lw, rfl, HA, HW, HO, rfl, HS⟩ := hrel
    match m, HA, HW with
    | 0, HA, HW =>
      have hn : n = -1 := HW.out
      subst hn
      go_wp2_with fail
      go_wp2
      exact bodyPost_ret (by simp [results, Try.results10, go_sem]; rfl) rfl ⟨⟨_, _, rfl, by have e := HA.out.2.2; rw [show wayL L x 0 (-1) = [] from rfl, List.append_nil] at e; rw [← e]; exact HO.out⟩, keepb HS.out HQ1.out⟩
    | m + 1, HA, HW =>
      have hmu1 := Hmu.out n _ HW.out
      obtain ⟨hw1, hw2⟩ := HW.out
      have hin : 0 ≤ n ∧ n < L.length := by unfold isN at hw1; rw [Bool.and_eq_true, decide_eq_true_eq, decide_eq_true_eq] at hw1; exact hw1
      obtain ⟨i, rfl⟩ : ∃ i : Nat, n = (i : Int) := ⟨n.toNat, by omega⟩
      have hiL : i < L.length := by omega
      have hnx : nxtW L x (i : Int) = kidV L (i : Int) (bitZ x (ln L i)) := by unfold nxtW; rw [nd8_at hiL]; rfl
      have hmu2 := Hmu.out _ _ hw2
      rw [hnx] at hw2 hmu2
      have hpf := Hp.out.pf hiL
      have Hpf := hidX hpf
      have hPl : P.length = L.length := Hp.out.pl
      have hiP : i < P.length := by omega
      have Hnx := hidX hnx
      have Hw2 := hidX hw2
      have Hmu3 := hidX (And.intro hmu1 hmu2)
      have hAl : A.length ≤ 1000000 := by have := HA.out; omega
      have HKb := hidX (fun w => HKB.out w (ln L i))
      have HKk := hidX (fun w h => HKK.out w h (i : Int) (bitZ x (ln L i)))
      clear hnx hw1 hw2 hmu1 hmu2 hpf hin hPl
      revert Hnx Hw2 Hmu3 HKk
      generalize kidV L (i : Int) (bitZ x (ln L i)) = k2
      intro Hnx Hw2 Hmu3 HKk
      revert HKb HKk
      generalize bitZ x (ln L i) = b2
      intro HKb HKk
      revert Hpf HKb
      generalize pfA ws L i = px
      generalize ln L i = q
      intro Hpf HKb
      have q9 := bl1 wr (.cells #[.int .i64 (i : Int)] 3)
      have HO9 := hidX (own_bel8 q9 HO.out)
      have HB9 := hidX (keepb q9 HS.out)
      have h63 : A.length + 1 ≤ maxLen := by unfold maxLen; omega
      have h47 : (A.length + 1) * 8 ≤ 140737488355328 := by omega
      have h0i : (0 : Int) ≤ (i : Int) := by omega
      clear q9
      go_wp2_with (first | (
          at_builtin
          refine wpList_append_lies _ rfl _ _ 37 rfl U.heap.size 3 j0 (.int .i64 0) 1 8 Try.underlying37 ji jz0 jz1 jz2 rfl (by decide) _ _ _ rfl HO9.out ⟨wr.heap.size, 0, none⟩ 1 1 [.int .i64 (i : Int)] rfl rfl (news1 (by simp [go_sem])) (by intro u hu; simp at hu; subst hu; rfl) (by decide) h63 h47 HB9.out.size _ rfl ?_
          intro g4 cap4 w4 hown4 hgrow hat hlt4
          have HO4 := hidX hown4
          have HB4 := hidX (HB9.out.grown hgrow HB9.out.size (fun z e => (HO9.out.lt z e).1))
          clear hgrow hat hown4 hlt4 h63 h47))
      have HC4 : Hid ((Below U.heap.size U w4.drew ∧ w4.drew.ownsRow U.heap.size 3 1 (.slice (some ⟨g4, 0, none⟩) (A.length + 1) cap4) (A.length + 1) (rowZ A ++ [.int .i64 (i : Int)]))) := hidX ⟨HCb.out _ _ HB4.out (below_drewN (Below.refl _ _) 1), own_bel8 (below_drewN (Below.refl _ _) 1) HO4.out⟩
      have HCr : Hid (∀ X Y, (Below U.heap.size U X ∧ X.ownsRow U.heap.size 3 1 (.slice (some ⟨g4, 0, none⟩) (A.length + 1) cap4) (A.length + 1) (rowZ A ++ [.int .i64 (i : Int)])) → Below X.heap.size X Y → (Below U.heap.size U Y ∧ Y.ownsRow U.heap.size 3 1 (.slice (some ⟨g4, 0, none⟩) (A.length + 1) cap4) (A.length + 1) (rowZ A ++ [.int .i64 (i : Int)]))) := hidX (fun X Y a b => ⟨HCb.out _ _ a.1 b, own_bel8 b a.2⟩)
      refine qw_region (C := fun X => (Below U.heap.size U X ∧ X.ownsRow U.heap.size 3 1 (.slice (some ⟨g4, 0, none⟩) (A.length + 1) cap4) (A.length + 1) (rowZ A ++ [.int .i64 (i : Int)]))) (by kernel_rfl) (by kernel_rfl) HC4.out ?_
      clear HC4
      refine qw_run (v := .pointer (some ⟨D, 0, none⟩)) (by rfl) ?_ ?_
      · (intro w1 hC; clear hC; go_simp; first | done | (simp; done) | (simp [*]; done) | omega | (simp; omega) | rfl)
      simp only [Act.put, List.setIfInBounds_toArray, List.set_cons_zero, List.set_cons_succ]
      refine qw_run (v := .int .i64 (i : Int)) (by rfl) ?_ ?_
      · (intro w1 hC; clear hC; go_simp; first | done | (simp; done) | (simp [*]; done) | omega | (simp; omega) | rfl)
      simp only [Act.put, List.setIfInBounds_toArray, List.set_cons_zero, List.set_cons_succ]
      refine qw_run (v := .agg #[.int .u64 (hI x), .int .u64 (lI x)]) (by rfl) ?_ ?_
      · (intro w1 hC; have f0 := (HCX.out _ hC.1).1; have f1 := (HCX.out _ hC.1).2; clear hC; go_simp; first | done | (simp; done) | (simp [*]; done) | omega | (simp; omega) | rfl)
      simp only [Act.put, List.setIfInBounds_toArray, List.set_cons_zero, List.set_cons_succ]
      refine qw_run (v := .pointer (some ⟨D, 0, none⟩)) (by rfl) ?_ ?_
      · (intro w1 hC; clear hC; go_simp; first | done | (simp; done) | (simp [*]; done) | omega | (simp; omega) | rfl)
      simp only [Act.put, List.setIfInBounds_toArray, List.set_cons_zero, List.set_cons_succ]
      refine qw_run (v := .pointer (some ⟨D, 0, none⟩)) (by rfl) ?_ ?_
      · (intro w1 hC; clear hC; go_simp; first | done | (simp; done) | (simp [*]; done) | omega | (simp; omega) | rfl)
      simp only [Act.put, List.setIfInBounds_toArray, List.set_cons_zero, List.set_cons_succ]
      refine qw_run (v := .pointer (some ⟨D, 1, none⟩)) (by rfl) ?_ ?_
      · (intro w1 hC; clear hC; go_simp; first | done | (simp; done) | (simp [*]; done) | omega | (simp; omega) | rfl)
      simp only [Act.put, List.setIfInBounds_toArray, List.set_cons_zero, List.set_cons_succ]
      refine qw_run (v := .slice (some ⟨gp, 0, none⟩) P.length cp) (by rfl) ?_ ?_
      · (intro w1 hC; have f0 := (HCD.out _ hC.1).ps; clear hC; go_simp; first | done | (simp; done) | (simp [*]; done) | omega | (simp; omega) | rfl)
      simp only [Act.put, List.setIfInBounds_toArray, List.set_cons_zero, List.set_cons_succ]
      refine qw_run (v := .int .i64 (i : Int)) (by rfl) ?_ ?_
      · (intro w1 hC; clear hC; go_simp; first | done | (simp; done) | (simp [*]; done) | omega | (simp; omega) | rfl)
      simp only [Act.put, List.setIfInBounds_toArray, List.set_cons_zero, List.set_cons_succ]
      refine qw_run (v := .pointer (some ⟨gp, i * 3, none⟩)) (by rfl) ?_ ?_
      · (intro w1 hC; clear hC; go_simp; first | done | (simp; done) | (simp [*]; done) | omega | (simp; omega) | rfl)
      simp only [Act.put, List.setIfInBounds_toArray, List.set_cons_zero, List.set_cons_succ]
      refine qw_run (v := .pointer (some ⟨gp, i * 3 + 2, none⟩)) (by rfl) ?_ ?_
      · (intro w1 hC; clear hC; go_simp; first | done | (simp; done) | (simp [*]; done) | omega | (simp; omega) | rfl)
      simp only [Act.put, List.setIfInBounds_toArray, List.set_cons_zero, List.set_cons_succ]
      refine qw_run (v := .int .i64 q) (by rfl) ?_ ?_
      · (intro w1 hC; have f0 := ((HCD.out _ hC.1).p _ _ _ Hpf.out).2.2; clear hC; go_simp; first | done | (simp; done) | (simp [*]; done) | omega | (simp; omega) | rfl)
      simp only [Act.put, List.setIfInBounds_toArray, List.set_cons_zero, List.set_cons_succ]
      refine qw_call (v := .int .i64 b2) (f := 27) (args := #[.agg #[.int .u64 (hI x), .int .u64 (lI x)], .int .i64 q]) (by rfl) ?_ ?_ ?_
      · (intro w1 hC; clear hC; go_simp)
      · exact fun w1 hC => (HKb.out w1).mono fun e w' ⟨he, hb⟩ => ⟨he, HCr.out _ _ hC hb⟩
      simp only [Act.put, List.setIfInBounds_toArray, List.set_cons_zero, List.set_cons_succ]
      refine qw_call (v := .int .i64 k2) (f := 26) (args := #[.pointer (some ⟨D, 0, none⟩), .int .i64 (i : Int), .int .i64 b2]) (by rfl) ?_ ?_ ?_
      · (intro w1 hC; clear hC; go_simp)
      · exact fun w1 hC => (HKk.out w1 (HCD.out _ hC.1)).mono fun e w' ⟨he, hb⟩ => ⟨he, HCr.out _ _ hC hb⟩
      simp only [Act.put, List.setIfInBounds_toArray, List.set_cons_zero, List.set_cons_succ]
      refine qw_run (v := .int .i64 k2) (by rfl) ?_ ?_
      · (intro w1 hC; clear hC; go_simp; first | done | (simp; done) | (simp [*]; done) | omega | (simp; omega) | rfl)
      simp only [Act.put, List.setIfInBounds_toArray, List.set_cons_zero, List.set_cons_succ]
      refine qw_nil ?_
      intro w5 hC
      have HC5 := hidX hC
      clear hC
      go_wp2
      go_roundw
      case rel => exact ⟨m, k2, A ++ [(i : Int)], _, rfl, hidX ⟨by have := HA.out; omega, by have := HA.out; simp; omega, by have e := HA.out.2.2; rw [← e, wayL, Hnx.out, List.append_assoc]; rfl⟩, Hw2, hidX (by rw [rowZ_app, List.length_append]; exact HC5.out.2), rfl, hidX HC5.out.1⟩
      case measure =>
        have := Hmu3.out
        simp only [this.1, this.2]
        omega
end
end Go.Proofs.Ytofpbommhklooaa
