/-
  What each call of Field, With and what they lean on does.
-/
import Derived.Test.YtpchhfhdepkbcaaDoorWord2
import Derived.Deep.RegionHeld3
namespace Go.Proofs.YtpchhfhdepkbcaaDoor
open Go.RowKit
set_option linter.unusedSimpArgs false
set_option linter.unusedVariables false

theorem cell_in {W : World} {b o : Nat} {v : Value} (h : W.cell? ⟨b, o, none⟩ = some v) : b < W.heap.size := by
  apply Classical.byContradiction; intro hn
  have : W.heap[b]? = none := by simp; omega
  simp [World.cell?, this] at h
theorem keepc {W w' : World} (hb : Below W.heap.size W w') {b o : Nat} {v : Value} (h : W.cell? ⟨b, o, none⟩ = some v) : w'.cell? ⟨b, o, none⟩ = some v := by
  rw [(bcell hb).1 b o (cell_in h)]; exact h
theorem keepf {W w' : World} (hb : Below W.heap.size W w') {b o : Nat} {v : Value} (h : W.cell? ⟨b, o, none⟩ = some v) (hf : W.frozen? ⟨b, o, none⟩ = false) : w'.frozen? ⟨b, o, none⟩ = false := by
  rw [(bcell hb).2 b o (cell_in h)]; exact hf
theorem keepb {w W w' : World} (hb : Below W.heap.size W w') (h : Below w.heap.size w W) : Below w.heap.size w w' := h.trans (hb.mono h.size)

/-- Whatever the cell holds, under a name that no rule opens: for a cell that is only there to be written. -/
def cv (w : World) (b o : Nat) : Value := (w.cell? ⟨b, o, none⟩).getD (.bool false)
theorem cv_of {w : World} {b o : Nat} {v : Value} (h : w.cell? ⟨b, o, none⟩ = some v) : w.cell? ⟨b, o, none⟩ = some (cv w b o) := by unfold cv; rw [h]; rfl
theorem cv_new {w : World} {b o : Nat} (h : (w.cell? ⟨b, o, none⟩).isSome = true) : w.cell? ⟨b, o, none⟩ = some (cv w b o) := by
  obtain ⟨v, hv⟩ := Option.isSome_iff_exists.mp h
  exact cv_of hv

set_option maxHeartbeats 1000000 in
theorem read_any (x : BitVec 128) (f n : Int) (B1 B2 : Nat) (w : World) (h0 : 0 ≤ f) (h1 : f ≤ 128) (h2 : 0 ≤ n) (h3 : n ≤ 128) (c1 : w.cell? ⟨B1, 0, none⟩ = some (.int .i64 f)) (c2 : w.cell? ⟨B2, 0, none⟩ = some (.int .i64 n)) :
    Calls Tryd.prog 113 #[.agg #[.int .u64 (hI x), .int .u64 (lI x)], .pointer (some ⟨B1, 0, none⟩), .pointer (some ⟨B2, 0, none⟩)] w fun e w' => e = .returned (.agg #[.int .u64 (hI ((x <<< f.toNat) >>> (128 - n).toNat)), .int .u64 (lI ((x <<< f.toNat) >>> (128 - n).toNat))]) ∧ Below w.heap.size w w' := by
  have l1 := cell_in c1
  have l2 := cell_in c2
  have d1 : w.heap.size ≠ B1 := by omega
  have d2 : w.heap.size ≠ B2 := by omega
  have d3 : w.heap.size + 1 ≠ B1 := by omega
  have d4 : w.heap.size + 1 ≠ B2 := by omega
  have hw : IntKind.i64.wrap (128 - n) = 128 - n := by rw [IntKind.wrap_i64]; omega
  have hbl := fun o p => (bl2 w o p).drew
  go_enter Tryd.func113, Tryd.ntmps113
  go_wp2
  go_region_held3 (fun w' => w'.cell? ⟨w.heap.size, 0, none⟩ = some (.int .u64 (hI x)) ∧ w'.cell? ⟨w.heap.size, 1, none⟩ = some (.int .u64 (lI x)) ∧ w'.cell? ⟨B1, 0, none⟩ = some (.int .i64 f) ∧ w'.cell? ⟨B2, 0, none⟩ = some (.int .i64 n) ∧ w'.cell? ⟨w.heap.size + 1, 0, none⟩ = some (cv w' (w.heap.size + 1) 0) ∧ w'.cell? ⟨w.heap.size + 1, 1, none⟩ = some (cv w' (w.heap.size + 1) 1) ∧ w'.frozen? ⟨w.heap.size + 1, 0, none⟩ = false ∧ w'.frozen? ⟨w.heap.size + 1, 1, none⟩ = false ∧ Below w.heap.size w w')
    (first
      | (obtain ⟨k1, k2, k3, k4, k5, k6, k7, k8, k9⟩ := ‹_ ∧ _›; exact ⟨keepc hb2 k1, keepc hb2 k2, keepc hb2 k3, keepc hb2 k4, cv_of (keepc hb2 k5), cv_of (keepc hb2 k6), keepf hb2 k5 k7, keepf hb2 k6 k8, keepb hb2 k9⟩)
      | (obtain ⟨k1, k2, k3, k4, k5, k6, k7, k8, k9⟩ := ‹_ ∧ _›; exact ⟨keepc hb1 k1, keepc hb1 k2, keepc hb1 k3, keepc hb1 k4, cv_of (keepc hb1 k5), cv_of (keepc hb1 k6), keepf hb1 k5 k7, keepf hb1 k6 k8, keepb hb1 k9⟩)
      | (refine ⟨?_, ?_, ?_, ?_, cv_new ?_, cv_new ?_, ?_, ?_, ?_⟩ <;> first | (simp [go_sem, *]; done) | exact Below.setCell (Below.setCell (by simp [*]) (by simp) _) (by simp) _))
    (first | (go_at_call 95; refine (shl_any _ _ _).mono ?_; rintro e w1 ⟨rfl, hb1⟩) | (go_at_call 90; refine (shr_any _ _ _).mono ?_; rintro e w2 ⟨rfl, hb2⟩))
  obtain ⟨-, -, -, -, -, -, -, -, kB⟩ := ‹_ ∧ _›
  have e0 : w2.cell? ⟨w.heap.size + 1, 0, none⟩ = some (.int .u64 0) := keepc hb2 (keepc hb1 (by simp [go_sem]))
  have e1 : w2.cell? ⟨w.heap.size + 1, 1, none⟩ = some (.int .u64 0) := keepc hb2 (keepc hb1 (by simp [go_sem]))
  go_wp2
  exact bodyPost_ret (v := .agg #[.int .u64 (hI ((x <<< f.toNat) >>> (128 - n).toNat)), .int .u64 (lI ((x <<< f.toNat) >>> (128 - n).toNat))]) (by simp [results, Tryd.results113, go_sem, e0, e1]) rfl ⟨rfl, kB⟩

set_option maxHeartbeats 1000000 in
theorem field_in (x : BitVec 128) (f n : Int) (w : World) (h0 : 0 ≤ f) (h1 : f ≤ 128) (h2 : 0 ≤ n) (h3 : n ≤ 128 - f) :
    Calls Tryd.prog 94 #[.agg #[.int .u64 (hI x), .int .u64 (lI x)], .int .i64 f, .int .i64 n] w fun e w' => e = .returned (.tuple #[.agg #[.int .u64 (hI ((x <<< f.toNat) >>> (128 - n).toNat)), .int .u64 (lI ((x <<< f.toNat) >>> (128 - n).toNat))], .int .i64 0]) ∧ Below w.heap.size w w' := by
  go_enter Tryd.func94, Tryd.ntmps94
  go_wp2_with (first | (go_at_call 113; refine (read_any x f n _ _ _ h0 h1 h2 (by omega) ?c1 ?c2).mono ?_) | go_in)
  case c1 => simp [go_sem]
  case c2 => simp [go_sem]
  rintro e w1 ⟨rfl, hb1⟩
  have e0 : w1.cell? ⟨w.heap.size + 1, 0, none⟩ = some (.int .u64 0) := keepc hb1 (by simp [go_sem])
  have e1 : w1.cell? ⟨w.heap.size + 1, 1, none⟩ = some (.int .u64 0) := keepc hb1 (by simp [go_sem])
  have e2 : w1.frozen? ⟨w.heap.size + 1, 0, none⟩ = false := keepf hb1 (v := .int .u64 0) (by simp [go_sem]) (by simp [go_sem])
  have e3 : w1.frozen? ⟨w.heap.size + 1, 1, none⟩ = false := keepf hb1 (v := .int .u64 0) (by simp [go_sem]) (by simp [go_sem])
  have kB : Below w.heap.size w w1 := keepb hb1 (((bl2 _ _ _).alloc (by simp; omega) _).alloc (by simp; omega) _)
  clear hb1
  go_wp2
  exact bodyPost_ret (v := .tuple #[.agg #[.int .u64 (hI ((x <<< f.toNat) >>> (128 - n).toNat)), .int .u64 (lI ((x <<< f.toNat) >>> (128 - n).toNat))], .int .i64 0]) (by simp [results, Tryd.results94, go_sem, e0, e1]) rfl ⟨rfl, (kB.setCell (by simp) _).setCell (by simp) _⟩

end Go.Proofs.YtpchhfhdepkbcaaDoor
