/-
  What the calls of package cost's Cmp and of the document's Cmp do.
-/
import Derived.Test.YtnaamkkjledllaaC9B
namespace Go.Proofs.Ytnaamkkjledllaa
open Go.RowKit
set_option linter.unusedSimpArgs false
set_option linter.unusedVariables false

theorem cmp9_ways (N M : Nat) : (N = M ∧ cmpN N M = 0) ∨ (cost0 N < cost0 M ∧ cmpN N M = -1) ∨ (cost0 M < cost0 N ∧ cmpN N M = 1) ∨ (cost0 N = cost0 M ∧ cost1 N < cost1 M ∧ cmpN N M = -1) ∨ (cost0 N = cost0 M ∧ cost1 M < cost1 N ∧ cmpN N M = 1) ∨ (cost0 N = cost0 M ∧ cost1 N = cost1 M ∧ cost2 N < cost2 M ∧ cmpN N M = -1) ∨ (cost0 N = cost0 M ∧ cost1 N = cost1 M ∧ cost2 M < cost2 N ∧ cmpN N M = 1) := by
  have a := cost_split N
  have b := cost_split M
  have c := cost_lo N
  have d := cost_lo M
  by_cases e : N = M
  · left; exact ⟨e, by subst e; exact cmpN_self N⟩
  · have hv : cmpN N M = -1 ∧ N < M ∨ cmpN N M = 1 ∧ M < N := by
      unfold cmpN
      rw [if_neg e]
      by_cases h : N < M
      · left; exact ⟨if_pos h, h⟩
      · right; exact ⟨if_neg h, by omega⟩
    generalize cost0 N = x0 at *
    generalize cost1 N = x1 at *
    generalize cost2 N = x2 at *
    generalize cost0 M = y0 at *
    generalize cost1 M = y1 at *
    generalize cost2 M = y2 at *
    right
    rcases hv with ⟨hv, h⟩ | ⟨hv, h⟩
    · rw [hv]
      by_cases h0 : x0 = y0
      · by_cases h1 : x1 = y1
        · exact .inr (.inr (.inr (.inr (.inl ⟨h0, h1, by omega, rfl⟩))))
        · exact .inr (.inr (.inl ⟨h0, by omega, rfl⟩))
      · exact .inl ⟨by omega, rfl⟩
    · rw [hv]
      by_cases h0 : x0 = y0
      · by_cases h1 : x1 = y1
        · exact .inr (.inr (.inr (.inr (.inr ⟨h0, h1, by omega, rfl⟩))))
        · exact .inr (.inr (.inr (.inl ⟨h0, by omega, rfl⟩)))
      · exact .inr (.inl ⟨by omega, rfl⟩)
/-- Two numbers in memory. -/
def E2 (w : World) (x0 x1 x2 y0 y1 y2 : Int) (W : World) : Prop := AtC W w.heap.size x0 x1 x2 ∧ AtC W (w.heap.size + 1) y0 y1 y2 ∧ Below w.heap.size w W
theorem E2.drewN {w W : World} {x0 x1 x2 y0 y1 y2 : Int} (h : E2 w x0 x1 x2 y0 y1 y2 W) : ∀ q, E2 w x0 x1 x2 y0 y1 y2 (W.drewN q) := fun q =>
  have hb := below_drewN (Below.refl W.heap.size W) q
  ⟨h.1.below hb, h.2.1.below hb, keepb hb h.2.2⟩
theorem E2.start (w : World) (x0 x1 x2 y0 y1 y2 : Int) (T : TypeId) : E2 w x0 x1 x2 y0 y1 y2 ((w.alloc (.cells #[.int .u64 x0, .int .u64 x1, .int .u64 x2] T)).alloc (.cells #[.int .u64 y0, .int .u64 y1, .int .u64 y2] T)) := by
  have p1 := bl1 w (.cells #[.int .u64 x0, .int .u64 x1, .int .u64 x2] T)
  have q1 := atc_new w w.heap.size x0 x1 x2 T rfl
  generalize hw1 : w.alloc (.cells #[.int .u64 x0, .int .u64 x1, .int .u64 x2] T) = w1 at *
  have z1 : w.heap.size + 1 = w1.heap.size := by rw [← hw1]; simp
  have p2 := bl1 w1 (.cells #[.int .u64 y0, .int .u64 y1, .int .u64 y2] T)
  have q2 := atc_new w1 (w.heap.size + 1) y0 y1 y2 T z1
  exact ⟨q1.below p2, q2, keepb p2 p1⟩
set_option maxRecDepth 20000 in
set_option maxHeartbeats 8000000 in
theorem cmp9_any (N M : Nat) (w : World) :
    Calls Try.prog 18 #[costV N, costV M] w fun e w' => e = .returned (.int .i64 (cmpN N M)) ∧ Below w.heap.size w w' := by
  have ways := cmp9_ways N M
  have hq := eqC_any (cost0 N) (cost1 N) (cost2 N) (cost0 M) (cost1 M) (cost2 M)
  rw [eq9_cost] at hq
  by_cases e : N = M
  · subst e
    rw [cmpN_self]
    rw [decide_eq_true (rfl : N = N)] at hq
    unfold costV
    clear ways
    generalize cost0 N = x0 at *
    generalize cost1 N = x1 at *
    generalize cost2 N = x2 at *
    have HS := hid9 (E2.start w x0 x1 x2 x0 x1 x2 24)
    go_enter Try.func18, Try.ntmps18
    go_wp2
    exact bodyPost_ret (v := .int .i64 0) (by simp [results, Try.results18, go_sem]) rfl ⟨rfl, HS.out.2.2⟩
  rw [decide_eq_false e] at hq
  unfold costV
  generalize cost0 N = x0 at *
  generalize cost1 N = x1 at *
  generalize cost2 N = x2 at *
  generalize cost0 M = y0 at *
  generalize cost1 M = y1 at *
  generalize cost2 M = y2 at *
  rcases ways with ⟨h, -⟩ | ⟨h, hv⟩ | ⟨h, hv⟩ | ⟨rfl, h, hv⟩ | ⟨rfl, h, hv⟩ | ⟨rfl, rfl, h, hv⟩ | ⟨rfl, rfl, h, hv⟩
  · exact absurd h e
  · rw [hv]
    clear hv e
    have d1 : (x0 == y0) = false := by simp; omega
    have d2 : ¬ y0 < x0 := by omega
    have HS := hid9 (E2.start w x0 x1 x2 y0 y1 y2 24)
    go_enter Try.func18, Try.ntmps18
    go_wp2_with fail
    go_loopw [5] (fun i wr => (i = .int .i64 0) ∧ Hid (E2 w x0 x1 x2 y0 y1 y2 wr)) (fun i _ => 3 - (intOf i).toNat)
    case atStart => exact ⟨rfl, HS⟩
    case round =>
      clear HS
      obtain ⟨hi, HE⟩ := hrel
      have HE2 := hid9 HE.out.drewN
      have HE3 := hid9 (fun q => (HE.out.drewN q).drewN)
      obtain ⟨⟨a0, a1, a2, -, -, -⟩, ⟨b0, b1, b2, -, -, -⟩, -⟩ := HE.out
      rcases hi with rfl
      · clear HE
        go_wp2_with fail
        go_quiet (fail)
        go_wp2_with fail
        go_quiet (fail)
        go_wp2
        exact bodyPost_ret (v := .int .i64 (-1)) (by simp [results, Try.results18, go_sem]) rfl ⟨rfl, by first | exact (HE2.out _).2.2 | exact (HE3.out _ _).2.2⟩
  · rw [hv]
    clear hv e
    have d1 : (x0 == y0) = false := by simp; omega
    have d2 : ¬ x0 < y0 := by omega
    have HS := hid9 (E2.start w x0 x1 x2 y0 y1 y2 24)
    go_enter Try.func18, Try.ntmps18
    go_wp2_with fail
    go_loopw [5] (fun i wr => (i = .int .i64 0) ∧ Hid (E2 w x0 x1 x2 y0 y1 y2 wr)) (fun i _ => 3 - (intOf i).toNat)
    case atStart => exact ⟨rfl, HS⟩
    case round =>
      clear HS
      obtain ⟨hi, HE⟩ := hrel
      have HE2 := hid9 HE.out.drewN
      have HE3 := hid9 (fun q => (HE.out.drewN q).drewN)
      obtain ⟨⟨a0, a1, a2, -, -, -⟩, ⟨b0, b1, b2, -, -, -⟩, -⟩ := HE.out
      rcases hi with rfl
      · clear HE
        go_wp2_with fail
        go_quiet (fail)
        go_wp2_with fail
        go_quiet (fail)
        go_wp2
        exact bodyPost_ret (v := .int .i64 1) (by simp [results, Try.results18, go_sem]) rfl ⟨rfl, by first | exact (HE2.out _).2.2 | exact (HE3.out _ _).2.2⟩
  · rw [hv]
    clear hv e
    have d1 : (x1 == y1) = false := by simp; omega
    have d2 : ¬ y1 < x1 := by omega
    have HS := hid9 (E2.start w x0 x1 x2 x0 y1 y2 24)
    go_enter Try.func18, Try.ntmps18
    go_wp2_with fail
    go_loopw [5] (fun i wr => (i = .int .i64 0 ∨ i = .int .i64 1) ∧ Hid (E2 w x0 x1 x2 x0 y1 y2 wr)) (fun i _ => 3 - (intOf i).toNat)
    case atStart => exact ⟨.inl rfl, HS⟩
    case round =>
      clear HS
      obtain ⟨hi, HE⟩ := hrel
      have HE2 := hid9 HE.out.drewN
      have HE3 := hid9 (fun q => (HE.out.drewN q).drewN)
      obtain ⟨⟨a0, a1, a2, -, -, -⟩, ⟨b0, b1, b2, -, -, -⟩, -⟩ := HE.out
      rcases hi with rfl | rfl
      · clear HE
        go_wp2_with fail
        go_quiet (fail)
        go_wp2
        go_roundw
        case rel => exact ⟨.inr (by simp), by first | exact HE2.out _ | exact HE3.out _ _⟩
        case measure => simp [intOf]
      · clear HE
        go_wp2_with fail
        go_quiet (fail)
        go_wp2_with fail
        go_quiet (fail)
        go_wp2
        exact bodyPost_ret (v := .int .i64 (-1)) (by simp [results, Try.results18, go_sem]) rfl ⟨rfl, by first | exact (HE2.out _).2.2 | exact (HE3.out _ _).2.2⟩
  · rw [hv]
    clear hv e
    have d1 : (x1 == y1) = false := by simp; omega
    have d2 : ¬ x1 < y1 := by omega
    have HS := hid9 (E2.start w x0 x1 x2 x0 y1 y2 24)
    go_enter Try.func18, Try.ntmps18
    go_wp2_with fail
    go_loopw [5] (fun i wr => (i = .int .i64 0 ∨ i = .int .i64 1) ∧ Hid (E2 w x0 x1 x2 x0 y1 y2 wr)) (fun i _ => 3 - (intOf i).toNat)
    case atStart => exact ⟨.inl rfl, HS⟩
    case round =>
      clear HS
      obtain ⟨hi, HE⟩ := hrel
      have HE2 := hid9 HE.out.drewN
      have HE3 := hid9 (fun q => (HE.out.drewN q).drewN)
      obtain ⟨⟨a0, a1, a2, -, -, -⟩, ⟨b0, b1, b2, -, -, -⟩, -⟩ := HE.out
      rcases hi with rfl | rfl
      · clear HE
        go_wp2_with fail
        go_quiet (fail)
        go_wp2
        go_roundw
        case rel => exact ⟨.inr (by simp), by first | exact HE2.out _ | exact HE3.out _ _⟩
        case measure => simp [intOf]
      · clear HE
        go_wp2_with fail
        go_quiet (fail)
        go_wp2_with fail
        go_quiet (fail)
        go_wp2
        exact bodyPost_ret (v := .int .i64 1) (by simp [results, Try.results18, go_sem]) rfl ⟨rfl, by first | exact (HE2.out _).2.2 | exact (HE3.out _ _).2.2⟩
  · rw [hv]
    clear hv e
    have d1 : (x2 == y2) = false := by simp; omega
    have d2 : ¬ y2 < x2 := by omega
    have HS := hid9 (E2.start w x0 x1 x2 x0 x1 y2 24)
    go_enter Try.func18, Try.ntmps18
    go_wp2_with fail
    go_loopw [5] (fun i wr => (i = .int .i64 0 ∨ i = .int .i64 1 ∨ i = .int .i64 2) ∧ Hid (E2 w x0 x1 x2 x0 x1 y2 wr)) (fun i _ => 3 - (intOf i).toNat)
    case atStart => exact ⟨.inl rfl, HS⟩
    case round =>
      clear HS
      obtain ⟨hi, HE⟩ := hrel
      have HE2 := hid9 HE.out.drewN
      have HE3 := hid9 (fun q => (HE.out.drewN q).drewN)
      obtain ⟨⟨a0, a1, a2, -, -, -⟩, ⟨b0, b1, b2, -, -, -⟩, -⟩ := HE.out
      rcases hi with rfl | rfl | rfl
      · clear HE
        go_wp2_with fail
        go_quiet (fail)
        go_wp2
        go_roundw
        case rel => exact ⟨.inr (.inl (by simp)), by first | exact HE2.out _ | exact HE3.out _ _⟩
        case measure => simp [intOf]
      · clear HE
        go_wp2_with fail
        go_quiet (fail)
        go_wp2
        go_roundw
        case rel => exact ⟨.inr (.inr (by simp)), by first | exact HE2.out _ | exact HE3.out _ _⟩
        case measure => simp [intOf]
      · clear HE
        go_wp2_with fail
        go_quiet (fail)
        go_wp2_with fail
        go_quiet (fail)
        go_wp2
        exact bodyPost_ret (v := .int .i64 (-1)) (by simp [results, Try.results18, go_sem]) rfl ⟨rfl, by first | exact (HE2.out _).2.2 | exact (HE3.out _ _).2.2⟩
  · rw [hv]
    clear hv e
    have d1 : (x2 == y2) = false := by simp; omega
    have d2 : ¬ x2 < y2 := by omega
    have HS := hid9 (E2.start w x0 x1 x2 x0 x1 y2 24)
    go_enter Try.func18, Try.ntmps18
    go_wp2_with fail
    go_loopw [5] (fun i wr => (i = .int .i64 0 ∨ i = .int .i64 1 ∨ i = .int .i64 2) ∧ Hid (E2 w x0 x1 x2 x0 x1 y2 wr)) (fun i _ => 3 - (intOf i).toNat)
    case atStart => exact ⟨.inl rfl, HS⟩
    case round =>
      clear HS
      obtain ⟨hi, HE⟩ := hrel
      have HE2 := hid9 HE.out.drewN
      have HE3 := hid9 (fun q => (HE.out.drewN q).drewN)
      obtain ⟨⟨a0, a1, a2, -, -, -⟩, ⟨b0, b1, b2, -, -, -⟩, -⟩ := HE.out
      rcases hi with rfl | rfl | rfl
      · clear HE
        go_wp2_with fail
        go_quiet (fail)
        go_wp2
        go_roundw
        case rel => exact ⟨.inr (.inl (by simp)), by first | exact HE2.out _ | exact HE3.out _ _⟩
        case measure => simp [intOf]
      · clear HE
        go_wp2_with fail
        go_quiet (fail)
        go_wp2
        go_roundw
        case rel => exact ⟨.inr (.inr (by simp)), by first | exact HE2.out _ | exact HE3.out _ _⟩
        case measure => simp [intOf]
      · clear HE
        go_wp2_with fail
        go_quiet (fail)
        go_wp2_with fail
        go_quiet (fail)
        go_wp2
        exact bodyPost_ret (v := .int .i64 1) (by simp [results, Try.results18, go_sem]) rfl ⟨rfl, by first | exact (HE2.out _).2.2 | exact (HE3.out _ _).2.2⟩
set_option maxRecDepth 20000 in
set_option maxHeartbeats 8000000 in
theorem rcmp9_any (N M : Nat) (w : World) :
    Calls Try.prog 19 #[costV N, costV M] w fun e w' => e = .returned (.int .i64 (cmpN N M)) ∧ Below w.heap.size w w' := by
  have ways := cmp9_ways N M
  by_cases e : N = M
  · subst e
    rw [cmpN_self]
    unfold costV
    clear ways
    generalize cost0 N = x0 at *
    generalize cost1 N = x1 at *
    generalize cost2 N = x2 at *
    have HS := hid9 (E2.start w x0 x1 x2 x0 x1 x2 24)
    go_enter Try.func19, Try.ntmps19
    go_wp2_with fail
    go_loopw [5] (fun i wr => (i = .int .i64 0 ∨ i = .int .i64 1 ∨ i = .int .i64 2 ∨ i = .int .i64 3) ∧ Hid (E2 w x0 x1 x2 x0 x1 x2 wr)) (fun i _ => 3 - (intOf i).toNat)
    case atStart => exact ⟨.inl rfl, HS⟩
    case round =>
      clear HS
      obtain ⟨hi, HE⟩ := hrel
      have HE2 := hid9 HE.out.drewN
      have HE3 := hid9 (fun q => (HE.out.drewN q).drewN)
      obtain ⟨⟨a0, a1, a2, -, -, -⟩, ⟨b0, b1, b2, -, -, -⟩, -⟩ := HE.out
      rcases hi with rfl | rfl | rfl | rfl
      · clear HE
        go_wp2_with fail
        go_quiet (fail)
        go_wp2_with fail
        go_quiet (fail)
        go_wp2
        go_roundw
        case rel => exact ⟨.inr (.inl (by simp)), by first | exact HE2.out _ | exact HE3.out _ _⟩
        case measure => simp [intOf]
      · clear HE
        go_wp2_with fail
        go_quiet (fail)
        go_wp2_with fail
        go_quiet (fail)
        go_wp2
        go_roundw
        case rel => exact ⟨.inr (.inr (.inl (by simp))), by first | exact HE2.out _ | exact HE3.out _ _⟩
        case measure => simp [intOf]
      · clear HE
        go_wp2_with fail
        go_quiet (fail)
        go_wp2_with fail
        go_quiet (fail)
        go_wp2
        go_roundw
        case rel => exact ⟨.inr (.inr (.inr (by simp))), by first | exact HE2.out _ | exact HE3.out _ _⟩
        case measure => simp [intOf]
      · clear HE2
        go_wp2
        exact bodyPost_ret (v := .int .i64 0) (by simp [results, Try.results19, go_sem]) rfl ⟨rfl, HE.out.2.2⟩
  unfold costV
  generalize cost0 N = x0 at *
  generalize cost1 N = x1 at *
  generalize cost2 N = x2 at *
  generalize cost0 M = y0 at *
  generalize cost1 M = y1 at *
  generalize cost2 M = y2 at *
  rcases ways with ⟨h, -⟩ | ⟨h, hv⟩ | ⟨h, hv⟩ | ⟨rfl, h, hv⟩ | ⟨rfl, h, hv⟩ | ⟨rfl, rfl, h, hv⟩ | ⟨rfl, rfl, h, hv⟩
  · exact absurd h e
  · rw [hv]
    clear hv e
    have d1 : (x0 == y0) = false := by simp; omega
    have d2 : ¬ y0 < x0 := by omega
    have HS := hid9 (E2.start w x0 x1 x2 y0 y1 y2 24)
    go_enter Try.func19, Try.ntmps19
    go_wp2_with fail
    go_loopw [5] (fun i wr => (i = .int .i64 0) ∧ Hid (E2 w x0 x1 x2 y0 y1 y2 wr)) (fun i _ => 3 - (intOf i).toNat)
    case atStart => exact ⟨rfl, HS⟩
    case round =>
      clear HS
      obtain ⟨hi, HE⟩ := hrel
      have HE2 := hid9 HE.out.drewN
      have HE3 := hid9 (fun q => (HE.out.drewN q).drewN)
      obtain ⟨⟨a0, a1, a2, -, -, -⟩, ⟨b0, b1, b2, -, -, -⟩, -⟩ := HE.out
      rcases hi with rfl
      · clear HE
        go_wp2_with fail
        go_quiet (fail)
        go_wp2
        exact bodyPost_ret (v := .int .i64 (-1)) (by simp [results, Try.results19, go_sem]) rfl ⟨rfl, by first | exact (HE2.out _).2.2 | exact (HE3.out _ _).2.2⟩
  · rw [hv]
    clear hv e
    have d1 : (x0 == y0) = false := by simp; omega
    have d2 : ¬ x0 < y0 := by omega
    have HS := hid9 (E2.start w x0 x1 x2 y0 y1 y2 24)
    go_enter Try.func19, Try.ntmps19
    go_wp2_with fail
    go_loopw [5] (fun i wr => (i = .int .i64 0) ∧ Hid (E2 w x0 x1 x2 y0 y1 y2 wr)) (fun i _ => 3 - (intOf i).toNat)
    case atStart => exact ⟨rfl, HS⟩
    case round =>
      clear HS
      obtain ⟨hi, HE⟩ := hrel
      have HE2 := hid9 HE.out.drewN
      have HE3 := hid9 (fun q => (HE.out.drewN q).drewN)
      obtain ⟨⟨a0, a1, a2, -, -, -⟩, ⟨b0, b1, b2, -, -, -⟩, -⟩ := HE.out
      rcases hi with rfl
      · clear HE
        go_wp2_with fail
        go_quiet (fail)
        go_wp2_with fail
        go_quiet (fail)
        go_wp2
        exact bodyPost_ret (v := .int .i64 1) (by simp [results, Try.results19, go_sem]) rfl ⟨rfl, by first | exact (HE2.out _).2.2 | exact (HE3.out _ _).2.2⟩
  · rw [hv]
    clear hv e
    have d1 : (x1 == y1) = false := by simp; omega
    have d2 : ¬ y1 < x1 := by omega
    have HS := hid9 (E2.start w x0 x1 x2 x0 y1 y2 24)
    go_enter Try.func19, Try.ntmps19
    go_wp2_with fail
    go_loopw [5] (fun i wr => (i = .int .i64 0 ∨ i = .int .i64 1) ∧ Hid (E2 w x0 x1 x2 x0 y1 y2 wr)) (fun i _ => 3 - (intOf i).toNat)
    case atStart => exact ⟨.inl rfl, HS⟩
    case round =>
      clear HS
      obtain ⟨hi, HE⟩ := hrel
      have HE2 := hid9 HE.out.drewN
      have HE3 := hid9 (fun q => (HE.out.drewN q).drewN)
      obtain ⟨⟨a0, a1, a2, -, -, -⟩, ⟨b0, b1, b2, -, -, -⟩, -⟩ := HE.out
      rcases hi with rfl | rfl
      · clear HE
        go_wp2_with fail
        go_quiet (fail)
        go_wp2_with fail
        go_quiet (fail)
        go_wp2
        go_roundw
        case rel => exact ⟨.inr (by simp), by first | exact HE2.out _ | exact HE3.out _ _⟩
        case measure => simp [intOf]
      · clear HE
        go_wp2_with fail
        go_quiet (fail)
        go_wp2
        exact bodyPost_ret (v := .int .i64 (-1)) (by simp [results, Try.results19, go_sem]) rfl ⟨rfl, by first | exact (HE2.out _).2.2 | exact (HE3.out _ _).2.2⟩
  · rw [hv]
    clear hv e
    have d1 : (x1 == y1) = false := by simp; omega
    have d2 : ¬ x1 < y1 := by omega
    have HS := hid9 (E2.start w x0 x1 x2 x0 y1 y2 24)
    go_enter Try.func19, Try.ntmps19
    go_wp2_with fail
    go_loopw [5] (fun i wr => (i = .int .i64 0 ∨ i = .int .i64 1) ∧ Hid (E2 w x0 x1 x2 x0 y1 y2 wr)) (fun i _ => 3 - (intOf i).toNat)
    case atStart => exact ⟨.inl rfl, HS⟩
    case round =>
      clear HS
      obtain ⟨hi, HE⟩ := hrel
      have HE2 := hid9 HE.out.drewN
      have HE3 := hid9 (fun q => (HE.out.drewN q).drewN)
      obtain ⟨⟨a0, a1, a2, -, -, -⟩, ⟨b0, b1, b2, -, -, -⟩, -⟩ := HE.out
      rcases hi with rfl | rfl
      · clear HE
        go_wp2_with fail
        go_quiet (fail)
        go_wp2_with fail
        go_quiet (fail)
        go_wp2
        go_roundw
        case rel => exact ⟨.inr (by simp), by first | exact HE2.out _ | exact HE3.out _ _⟩
        case measure => simp [intOf]
      · clear HE
        go_wp2_with fail
        go_quiet (fail)
        go_wp2_with fail
        go_quiet (fail)
        go_wp2
        exact bodyPost_ret (v := .int .i64 1) (by simp [results, Try.results19, go_sem]) rfl ⟨rfl, by first | exact (HE2.out _).2.2 | exact (HE3.out _ _).2.2⟩
  · rw [hv]
    clear hv e
    have d1 : (x2 == y2) = false := by simp; omega
    have d2 : ¬ y2 < x2 := by omega
    have HS := hid9 (E2.start w x0 x1 x2 x0 x1 y2 24)
    go_enter Try.func19, Try.ntmps19
    go_wp2_with fail
    go_loopw [5] (fun i wr => (i = .int .i64 0 ∨ i = .int .i64 1 ∨ i = .int .i64 2) ∧ Hid (E2 w x0 x1 x2 x0 x1 y2 wr)) (fun i _ => 3 - (intOf i).toNat)
    case atStart => exact ⟨.inl rfl, HS⟩
    case round =>
      clear HS
      obtain ⟨hi, HE⟩ := hrel
      have HE2 := hid9 HE.out.drewN
      have HE3 := hid9 (fun q => (HE.out.drewN q).drewN)
      obtain ⟨⟨a0, a1, a2, -, -, -⟩, ⟨b0, b1, b2, -, -, -⟩, -⟩ := HE.out
      rcases hi with rfl | rfl | rfl
      · clear HE
        go_wp2_with fail
        go_quiet (fail)
        go_wp2_with fail
        go_quiet (fail)
        go_wp2
        go_roundw
        case rel => exact ⟨.inr (.inl (by simp)), by first | exact HE2.out _ | exact HE3.out _ _⟩
        case measure => simp [intOf]
      · clear HE
        go_wp2_with fail
        go_quiet (fail)
        go_wp2_with fail
        go_quiet (fail)
        go_wp2
        go_roundw
        case rel => exact ⟨.inr (.inr (by simp)), by first | exact HE2.out _ | exact HE3.out _ _⟩
        case measure => simp [intOf]
      · clear HE
        go_wp2_with fail
        go_quiet (fail)
        go_wp2
        exact bodyPost_ret (v := .int .i64 (-1)) (by simp [results, Try.results19, go_sem]) rfl ⟨rfl, by first | exact (HE2.out _).2.2 | exact (HE3.out _ _).2.2⟩
  · rw [hv]
    clear hv e
    have d1 : (x2 == y2) = false := by simp; omega
    have d2 : ¬ x2 < y2 := by omega
    have HS := hid9 (E2.start w x0 x1 x2 x0 x1 y2 24)
    go_enter Try.func19, Try.ntmps19
    go_wp2_with fail
    go_loopw [5] (fun i wr => (i = .int .i64 0 ∨ i = .int .i64 1 ∨ i = .int .i64 2) ∧ Hid (E2 w x0 x1 x2 x0 x1 y2 wr)) (fun i _ => 3 - (intOf i).toNat)
    case atStart => exact ⟨.inl rfl, HS⟩
    case round =>
      clear HS
      obtain ⟨hi, HE⟩ := hrel
      have HE2 := hid9 HE.out.drewN
      have HE3 := hid9 (fun q => (HE.out.drewN q).drewN)
      obtain ⟨⟨a0, a1, a2, -, -, -⟩, ⟨b0, b1, b2, -, -, -⟩, -⟩ := HE.out
      rcases hi with rfl | rfl | rfl
      · clear HE
        go_wp2_with fail
        go_quiet (fail)
        go_wp2_with fail
        go_quiet (fail)
        go_wp2
        go_roundw
        case rel => exact ⟨.inr (.inl (by simp)), by first | exact HE2.out _ | exact HE3.out _ _⟩
        case measure => simp [intOf]
      · clear HE
        go_wp2_with fail
        go_quiet (fail)
        go_wp2_with fail
        go_quiet (fail)
        go_wp2
        go_roundw
        case rel => exact ⟨.inr (.inr (by simp)), by first | exact HE2.out _ | exact HE3.out _ _⟩
        case measure => simp [intOf]
      · clear HE
        go_wp2_with fail
        go_quiet (fail)
        go_wp2_with fail
        go_quiet (fail)
        go_wp2
        exact bodyPost_ret (v := .int .i64 1) (by simp [results, Try.results19, go_sem]) rfl ⟨rfl, by first | exact (HE2.out _).2.2 | exact (HE3.out _ _).2.2⟩
end Go.Proofs.Ytnaamkkjledllaa
