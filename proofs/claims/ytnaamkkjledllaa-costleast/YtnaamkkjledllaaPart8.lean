/-
  Part 8 of the proof: 3 texts, one behind the other.
-/
import Derived.Test.YtnaamkkjledllaaPart7
import Derived.Deep.Onto
import Derived.Test.YtnaamkkjledllaaPart2
import Derived.Deep.Slices
import Derived.Carry
import Derived.SizedLaws
/-
  Rows of numbers of 192 bits; what the calls of package cost's Least and of the document's Least do.
-/
namespace Go.Proofs.Ytnaamkkjledllaa
open Go.RowKit
set_option linter.unusedSimpArgs false
set_option linter.unusedVariables false

/-- The cells of a row of numbers. -/
def rowC : List Nat → List Value
  | [] => []
  | N :: l => .int .u64 (cost0 N) :: .int .u64 (cost1 N) :: .int .u64 (cost2 N) :: rowC l
theorem rowC_len : ∀ l, (rowC l).length = l.length * 3
  | [] => rfl
  | N :: l => by simp only [rowC, List.length_cons, rowC_len l]; omega
theorem rowC_get : ∀ (l : List Nat) (k : Nat) (hk : k < l.length), (rowC l)[k * 3]? = some (.int .u64 (cost0 l[k])) ∧ (rowC l)[k * 3 + 1]? = some (.int .u64 (cost1 l[k])) ∧ (rowC l)[k * 3 + 2]? = some (.int .u64 (cost2 l[k]))
  | N :: l, 0, _ => ⟨rfl, rfl, rfl⟩
  | N :: l, k + 1, hk => by
    have := rowC_get l k (by simpa using hk)
    rw [show (k + 1) * 3 = k * 3 + 3 by omega]
    exact this
theorem rowC_cell (l : List Nat) : ∀ y ∈ rowC l, y.oneCell' = true := by
  induction l with
  | nil => intro y hy; cases hy
  | cons N l ih =>
    intro y hy
    simp only [rowC, List.mem_cons] at hy
    rcases hy with rfl | rfl | rfl | hy
    · rfl
    · rfl
    · rfl
    · exact ih y hy
/-- A row of numbers in memory, whosever it is. -/
def RwC (w : World) (v : Value) (l : List Nat) : Prop := ∃ ao c, v = .slice ao l.length c ∧ (l = [] ∨ ∃ b off, ao = some ⟨b, off, none⟩ ∧ ∀ j u, (rowC l)[j]? = some u → w.cell? ⟨b, off + j, none⟩ = some u)
theorem RwC.below {w w' : World} {v : Value} {l : List Nat} (h : RwC w v l) (hb : Below w.heap.size w w') : RwC w' v l := by
  obtain ⟨ao, c, e, h⟩ := h
  refine ⟨ao, c, e, ?_⟩
  rcases h with h | ⟨b, off, e, h⟩
  · exact .inl h
  · exact .inr ⟨b, off, e, fun j u hj => keepc hb (h j u hj)⟩
theorem row_rwc {w : World} {v : Value} {l : List Nat} (h : Row w 3 v l.length (rowC l)) : RwC w v l := by
  obtain ⟨hl, ao, c, e, hc, h⟩ := h
  refine ⟨ao, c, e, ?_⟩
  rcases h with ⟨rfl, rfl, h⟩ | h
  · exact .inl (List.eq_nil_of_length_eq_zero h)
  · exact .inr h
theorem rwc_at {W : World} {b off : Nat} {l : List Nat} (h : ∀ j u, (rowC l)[j]? = some u → W.cell? ⟨b, off + j, none⟩ = some u) (k : Nat) (hk : k < l.length) :
    W.cell? ⟨b, off + k * 3, none⟩ = some (.int .u64 (cost0 l[k])) ∧ W.cell? ⟨b, off + k * 3 + 1, none⟩ = some (.int .u64 (cost1 l[k])) ∧ W.cell? ⟨b, off + k * 3 + 2, none⟩ = some (.int .u64 (cost2 l[k])) := by
  obtain ⟨a, c, d⟩ := rowC_get l k hk
  exact ⟨h _ _ a, h _ _ c, h _ _ d⟩
/-- Where the least one of the first k stands. -/
def lsK (l : List Nat) : Nat → Int
  | 0 => -1
  | k + 1 => if lsK l k < 0 then (k : Int) else if cmpN (l.getD k 0) (l.getD (lsK l k).toNat 0) < 0 then (k : Int) else lsK l k
theorem lsK_bd (l : List Nat) : ∀ k, -1 ≤ lsK l k ∧ lsK l k < (k : Int) ∧ (0 < k → 0 ≤ lsK l k)
  | 0 => by simp [lsK]
  | k + 1 => by
    have := lsK_bd l k
    simp only [lsK]
    split
    · omega
    · split <;> omega
/-- Three cells in a row. -/
def C3 (W : World) (b o : Nat) (x0 x1 x2 : Int) : Prop := W.cell? ⟨b, o, none⟩ = some (.int .u64 x0) ∧ W.cell? ⟨b, o + 1, none⟩ = some (.int .u64 x1) ∧ W.cell? ⟨b, o + 2, none⟩ = some (.int .u64 x2)
theorem C3.below {W W' : World} {b o : Nat} {x0 x1 x2 : Int} (h : C3 W b o x0 x1 x2) (hb : Below W.heap.size W W') : C3 W' b o x0 x1 x2 := ⟨keepc hb h.1, keepc hb h.2.1, keepc hb h.2.2⟩
theorem lsK_lt {l : List Nat} {k : Nat} (hk : 0 < k) (hl : k < l.length) : ∃ q : Nat, lsK l k = (q : Int) ∧ q < l.length := by
  have := lsK_bd l k
  exact ⟨(lsK l k).toNat, by omega, by omega⟩
theorem getD9 {l : List Nat} {k : Nat} (h : k < l.length) : l.getD k 0 = l[k] := by simp [h]
set_option maxRecDepth 20000 in
set_option maxHeartbeats 16000000 in
theorem least9_any (v : Value) (l : List Nat) (w : World) (hv : RwC w v l) (hl : l.length ≤ 9223372036854775806) :
    Calls Try.prog 20 #[v] w fun e w' => e = .returned (.int .i64 (lsK l l.length)) ∧ Below w.heap.size w w' := by
  obtain ⟨ao, cc, rfl, hv⟩ := hv
  have HV := hid9 hv
  have HB := hid9 (Below.refl w.heap.size w)
  clear hv
  go_enter Try.func20, Try.ntmps20
  go_wp2_with fail
  go_loopw [3, 8] (fun a i wr => ∃ k : Nat, k ≤ l.length ∧ a = .int .i64 (lsK l k) ∧ i = .int .i64 (k : Int) ∧ Hid (Below w.heap.size w wr)) (fun _ i _ => l.length - (intOf i).toNat)
  case atStart => exact ⟨0, by omega, rfl, rfl, HB⟩
  case round =>
    clear HB
    obtain ⟨k, hk, rfl, rfl, HB⟩ := hrel
    by_cases hlt : (k : Int) < (l.length : Int)
    · have hks : k < l.length := by omega
      rcases HV.out with h | ⟨b, off, rfl, hc⟩
      · rw [h] at hks; simp at hks
      · have mk : IntKind.i64.wrap ((k : Int) + 1) = (k : Int) + 1 := by rw [IntKind.wrap_i64]; omega
        have HX : Hid (C3 wr b (off + k * 3) (cost0 l[k]) (cost1 l[k]) (cost2 l[k])) := by
          have := rwc_at hc k hks
          exact (show C3 w b (off + k * 3) _ _ _ from this).below HB.out
        have HS : Hid (lsK l (k + 1) = if lsK l k < 0 then (k : Int) else if cmpN (l.getD k 0) (l.getD (lsK l k).toNat 0) < 0 then (k : Int) else lsK l k) := rfl
        rw [getD9 hks] at HS
        have hbd := lsK_bd l k
        have HK := hid9 hk
        by_cases k0 : k = 0
        · subst k0
          have hm : lsK l 0 = -1 := rfl
          rw [hm]
          rw [hm, if_pos (by decide)] at HS
          clear hbd hm hk hc
          generalize cost0 l[0] = x0 at *
          generalize cost1 l[0] = x1 at *
          generalize cost2 l[0] = x2 at *
          have HX0 := hid9 HX.out
          obtain ⟨y0, y1, y2⟩ := HX.out
          simp only [Nat.zero_mul, Nat.add_zero] at y0 y1 y2
          clear HX
          have q5 := bl1 wr (.cells #[.int .u64 x0, .int .u64 x1, .int .u64 x2] 24)
          have HB1 := hid9 (keepb q5 HB.out)
          clear q5 HB
          go_wp2_with fail
          clear y0 y1 y2
          refine qw_region (C := fun W => Below w.heap.size w W) (by kernel_rfl) (by kernel_rfl) (keepb (below_drewN (Below.refl _ _) 1) HB1.out) ?_
          refine qw_run (v := .int .i64 (-1)) (by rfl) ?_ ?_
          · (intro w1 hC; obtain - := hC; go_simp; first | done | (simp; done) | (simp [*]; done) | omega | (simp; omega))
          simp only [Act.put, List.setIfInBounds_toArray, List.set_cons_zero, List.set_cons_succ]
          refine qw_run (v := .bool true) (by rfl) ?_ ?_
          · (intro w1 hC; obtain - := hC; go_simp; first | done | (simp; done) | (simp [*]; done) | omega | (simp; omega))
          simp only [Act.put, List.setIfInBounds_toArray, List.set_cons_zero, List.set_cons_succ]
          refine qw_run (v := .bool true) (by rfl) ?_ ?_
          · (intro w1 hC; obtain - := hC; go_simp; first | done | (simp; done) | (simp [*]; done) | omega | (simp; omega))
          simp only [Act.put, List.setIfInBounds_toArray, List.set_cons_zero, List.set_cons_succ]
          refine qw_skip (by rfl) ?_
          simp only [Act.put, List.setIfInBounds_toArray, List.set_cons_zero, List.set_cons_succ]
          refine qw_skip (by rfl) ?_
          simp only [Act.put, List.setIfInBounds_toArray, List.set_cons_zero, List.set_cons_succ]
          refine qw_skip (by rfl) ?_
          simp only [Act.put, List.setIfInBounds_toArray, List.set_cons_zero, List.set_cons_succ]
          refine qw_skip (by rfl) ?_
          simp only [Act.put, List.setIfInBounds_toArray, List.set_cons_zero, List.set_cons_succ]
          refine qw_skip (by rfl) ?_
          simp only [Act.put, List.setIfInBounds_toArray, List.set_cons_zero, List.set_cons_succ]
          refine qw_skip (by rfl) ?_
          simp only [Act.put, List.setIfInBounds_toArray, List.set_cons_zero, List.set_cons_succ]
          refine qw_skip (by rfl) ?_
          simp only [Act.put, List.setIfInBounds_toArray, List.set_cons_zero, List.set_cons_succ]
          refine qw_run (v := .bool true) (by rfl) ?_ ?_
          · (intro w1 hC; obtain - := hC; go_simp; first | done | (simp; done) | (simp [*]; done) | omega | (simp; omega))
          simp only [Act.put, List.setIfInBounds_toArray, List.set_cons_zero, List.set_cons_succ]
          refine qw_nil ?_
          intro v5 hC
          have HB2 := hid9 hC
          clear hC HB1
          go_wp2
          go_roundw
          case rel => exact ⟨1, by omega, by first | (rw [HS.out]; done) | (rw [HS.out]; rfl), by simp, HB2⟩
          case measure => simp [intOf]; omega
        · obtain ⟨q, hq, hql⟩ := lsK_lt (l := l) (k := k) (by omega) hks
          have HY : Hid (C3 wr b (off + q * 3) (cost0 l[q]) (cost1 l[q]) (cost2 l[q])) := by
            have := rwc_at hc q hql
            exact (show C3 w b (off + q * 3) _ _ _ from this).below HB.out
          have KC := fun w => cmp9_any l[k] l[q] w
          rw [hq] at HS ⊢
          rw [if_neg (by omega), show ((q : Int)).toNat = q from rfl, getD9 hql] at HS
          have hqn : ¬ (q : Int) < 0 := by omega
          have hqi : (q : Int) < (l.length : Int) := by omega
          clear hbd hk hc hq
          unfold costV at KC
          generalize cost0 l[k] = x0 at *
          generalize cost1 l[k] = x1 at *
          generalize cost2 l[k] = x2 at *
          generalize cost0 l[q] = y0 at *
          generalize cost1 l[q] = y1 at *
          generalize cost2 l[q] = y2 at *
          generalize cmpN l[k] l[q] = c at *
          obtain ⟨bb, hbb⟩ : ∃ t : Bool, decide (c < 0) = t := ⟨_, rfl⟩
          have HT : Hid (lsK l (k + 1) = if bb = true then (k : Int) else (q : Int)) := by
            show _ = _
            rw [HS.out, ← hbb]
            by_cases z : c < 0 <;> simp [z]
          clear HS
          have q5 := bl1 wr (.cells #[.int .u64 x0, .int .u64 x1, .int .u64 x2] 24)
          have HB1 := hid9 (keepb q5 HB.out)
          have HN := hid9 (atc_new wr wr.heap.size x0 x1 x2 24 rfl)
          have HY1 := hid9 (HY.out.below q5)
          obtain ⟨u0, u1, u2⟩ := HX.out
          clear q5 HB HX HY
          go_wp2_with fail
          clear u0 u1 u2
          revert HB1 HN HY1
          generalize wr.alloc (.cells #[.int .u64 x0, .int .u64 x1, .int .u64 x2] 24) = W5
          generalize wr.heap.size = N5
          intro HB1 HN HY1
          have hd5 := below_drewN (Below.refl W5.heap.size W5) 1
          refine qw_region (C := fun W => AtC W N5 x0 x1 x2 ∧ C3 W b (off + q * 3) y0 y1 y2 ∧ Below w.heap.size w W) (by kernel_rfl) (by kernel_rfl) ⟨HN.out.below hd5, HY1.out.below hd5, keepb hd5 HB1.out⟩ ?_
          refine qw_run (v := .int .i64 (q : Int)) (by rfl) ?_ ?_
          · (intro w1 hC; obtain ⟨⟨g0, g1, g2, -, -, -⟩, ⟨h0, h1, h2⟩, -⟩ := hC; go_simp; first | done | (simp; done) | (simp [*]; done) | omega | (simp; omega))
          simp only [Act.put, List.setIfInBounds_toArray, List.set_cons_zero, List.set_cons_succ]
          refine qw_run (v := .bool false) (by rfl) ?_ ?_
          · (intro w1 hC; obtain ⟨⟨g0, g1, g2, -, -, -⟩, ⟨h0, h1, h2⟩, -⟩ := hC; go_simp; first | done | (simp; done) | (simp [*]; done) | omega | (simp; omega))
          simp only [Act.put, List.setIfInBounds_toArray, List.set_cons_zero, List.set_cons_succ]
          refine qw_run (v := .bool false) (by rfl) ?_ ?_
          · (intro w1 hC; obtain ⟨⟨g0, g1, g2, -, -, -⟩, ⟨h0, h1, h2⟩, -⟩ := hC; go_simp; first | done | (simp; done) | (simp [*]; done) | omega | (simp; omega))
          simp only [Act.put, List.setIfInBounds_toArray, List.set_cons_zero, List.set_cons_succ]
          refine qw_run (v := .agg #[.int .u64 x0, .int .u64 x1, .int .u64 x2]) (by rfl) ?_ ?_
          · (intro w1 hC; obtain ⟨⟨g0, g1, g2, -, -, -⟩, ⟨h0, h1, h2⟩, -⟩ := hC; go_simp; first | done | (simp; done) | (simp [*]; done) | omega | (simp; omega))
          simp only [Act.put, List.setIfInBounds_toArray, List.set_cons_zero, List.set_cons_succ]
          refine qw_run (v := .slice (some ⟨b, off, none⟩) l.length cc) (by rfl) ?_ ?_
          · (intro w1 hC; obtain ⟨⟨g0, g1, g2, -, -, -⟩, ⟨h0, h1, h2⟩, -⟩ := hC; go_simp; first | done | (simp; done) | (simp [*]; done) | omega | (simp; omega))
          simp only [Act.put, List.setIfInBounds_toArray, List.set_cons_zero, List.set_cons_succ]
          refine qw_run (v := .int .i64 (q : Int)) (by rfl) ?_ ?_
          · (intro w1 hC; obtain ⟨⟨g0, g1, g2, -, -, -⟩, ⟨h0, h1, h2⟩, -⟩ := hC; go_simp; first | done | (simp; done) | (simp [*]; done) | omega | (simp; omega))
          simp only [Act.put, List.setIfInBounds_toArray, List.set_cons_zero, List.set_cons_succ]
          refine qw_run (v := .pointer (some ⟨b, off + q * 3, none⟩)) (by rfl) ?_ ?_
          · (intro w1 hC; obtain ⟨⟨g0, g1, g2, -, -, -⟩, ⟨h0, h1, h2⟩, -⟩ := hC; go_simp; first | done | (simp; done) | (simp [*]; done) | omega | (simp; omega))
          simp only [Act.put, List.setIfInBounds_toArray, List.set_cons_zero, List.set_cons_succ]
          refine qw_run (v := .agg #[.int .u64 y0, .int .u64 y1, .int .u64 y2]) (by rfl) ?_ ?_
          · (intro w1 hC; obtain ⟨⟨g0, g1, g2, -, -, -⟩, ⟨h0, h1, h2⟩, -⟩ := hC; go_simp; first | done | (simp; done) | (simp [*]; done) | omega | (simp; omega))
          simp only [Act.put, List.setIfInBounds_toArray, List.set_cons_zero, List.set_cons_succ]
          refine qw_call (v := .int .i64 c) (f := 18) (args := #[.agg #[.int .u64 x0, .int .u64 x1, .int .u64 x2], .agg #[.int .u64 y0, .int .u64 y1, .int .u64 y2]]) (by rfl) ?_ ?_ ?_
          · (intro w1 hC; clear hC; go_simp)
          · exact fun w1 hC => (KC w1).mono fun e w' ⟨he, hb⟩ => ⟨he, hC.1.below hb, hC.2.1.below hb, keepb hb hC.2.2⟩
          simp only [Act.put, List.setIfInBounds_toArray, List.set_cons_zero, List.set_cons_succ]
          refine qw_run (v := .bool bb) (by rfl) ?_ ?_
          · (intro w1 hC; obtain ⟨⟨g0, g1, g2, -, -, -⟩, ⟨h0, h1, h2⟩, -⟩ := hC; go_simp; first | done | (simp; done) | (simp [*]; done) | omega | (simp; omega))
          simp only [Act.put, List.setIfInBounds_toArray, List.set_cons_zero, List.set_cons_succ]
          refine qw_run (v := .bool bb) (by rfl) ?_ ?_
          · (intro w1 hC; obtain ⟨⟨g0, g1, g2, -, -, -⟩, ⟨h0, h1, h2⟩, -⟩ := hC; go_simp; first | done | (simp; done) | (simp [*]; done) | omega | (simp; omega))
          simp only [Act.put, List.setIfInBounds_toArray, List.set_cons_zero, List.set_cons_succ]
          refine qw_nil ?_
          intro v5 hC
          have HB2 := hid9 hC.2.2
          clear hC HB1 HN HY1 hd5 KC
          cases bb
          · go_wp2
            go_roundw
            case rel => exact ⟨k + 1, by omega, by first | (rw [HT.out]; done) | (rw [HT.out]; rfl), by go_num, HB2⟩
            case measure => simp [intOf]; omega
          · go_wp2
            go_roundw
            case rel => exact ⟨k + 1, by omega, by first | (rw [HT.out]; done) | (rw [HT.out]; rfl), by go_num, HB2⟩
            case measure => simp [intOf]; omega
    · have hk8 : k = l.length := by omega
      have hd : ¬ k < l.length := by omega
      subst hk8
      clear HV
      go_wp2
      go_ret
      exact ⟨rfl, HB.out⟩
set_option maxRecDepth 20000 in
set_option maxHeartbeats 16000000 in
theorem rleast9_any (v : Value) (l : List Nat) (w : World) (hv : RwC w v l) (hl : l.length ≤ 9223372036854775806) :
    Calls Try.prog 21 #[v] w fun e w' => e = .returned (.int .i64 (lsK l l.length)) ∧ Below w.heap.size w w' := by
  obtain ⟨ao, cc, rfl, hv⟩ := hv
  have HV := hid9 hv
  have HB := hid9 (Below.refl w.heap.size w)
  clear hv
  go_enter Try.func21, Try.ntmps21
  go_wp2_with fail
  go_loopw [3, 4] (fun a i wr => ∃ k : Nat, k ≤ l.length ∧ a = .int .i64 (lsK l k) ∧ i = .int .i64 (k : Int) ∧ Hid (Below w.heap.size w wr)) (fun _ i _ => l.length - (intOf i).toNat)
  case atStart => exact ⟨0, by omega, rfl, rfl, HB⟩
  case round =>
    clear HB
    obtain ⟨k, hk, rfl, rfl, HB⟩ := hrel
    by_cases hlt : (k : Int) < (l.length : Int)
    · have hks : k < l.length := by omega
      rcases HV.out with h | ⟨b, off, rfl, hc⟩
      · rw [h] at hks; simp at hks
      · have mk : IntKind.i64.wrap ((k : Int) + 1) = (k : Int) + 1 := by rw [IntKind.wrap_i64]; omega
        have HX : Hid (C3 wr b (off + k * 3) (cost0 l[k]) (cost1 l[k]) (cost2 l[k])) := by
          have := rwc_at hc k hks
          exact (show C3 w b (off + k * 3) _ _ _ from this).below HB.out
        have HS : Hid (lsK l (k + 1) = if lsK l k < 0 then (k : Int) else if cmpN (l.getD k 0) (l.getD (lsK l k).toNat 0) < 0 then (k : Int) else lsK l k) := rfl
        rw [getD9 hks] at HS
        have hbd := lsK_bd l k
        have HK := hid9 hk
        by_cases k0 : k = 0
        · subst k0
          have hm : lsK l 0 = -1 := rfl
          rw [hm]
          rw [hm, if_pos (by decide)] at HS
          clear hbd hm hk hc
          generalize cost0 l[0] = x0 at *
          generalize cost1 l[0] = x1 at *
          generalize cost2 l[0] = x2 at *
          have HX0 := hid9 HX.out
          obtain ⟨y0, y1, y2⟩ := HX.out
          simp only [Nat.zero_mul, Nat.add_zero] at y0 y1 y2
          clear HX
          go_wp2_with fail
          clear y0 y1 y2
          refine qw_region (C := fun W => Below w.heap.size w W) (by kernel_rfl) (by kernel_rfl) (keepb (below_drewN (Below.refl _ _) 1) HB.out) ?_
          refine qw_run (v := .int .i64 (-1)) (by rfl) ?_ ?_
          · (intro w1 hC; obtain - := hC; go_simp; first | done | (simp; done) | (simp [*]; done) | omega | (simp; omega))
          simp only [Act.put, List.setIfInBounds_toArray, List.set_cons_zero, List.set_cons_succ]
          refine qw_run (v := .bool true) (by rfl) ?_ ?_
          · (intro w1 hC; obtain - := hC; go_simp; first | done | (simp; done) | (simp [*]; done) | omega | (simp; omega))
          simp only [Act.put, List.setIfInBounds_toArray, List.set_cons_zero, List.set_cons_succ]
          refine qw_run (v := .bool true) (by rfl) ?_ ?_
          · (intro w1 hC; obtain - := hC; go_simp; first | done | (simp; done) | (simp [*]; done) | omega | (simp; omega))
          simp only [Act.put, List.setIfInBounds_toArray, List.set_cons_zero, List.set_cons_succ]
          refine qw_skip (by rfl) ?_
          simp only [Act.put, List.setIfInBounds_toArray, List.set_cons_zero, List.set_cons_succ]
          refine qw_skip (by rfl) ?_
          simp only [Act.put, List.setIfInBounds_toArray, List.set_cons_zero, List.set_cons_succ]
          refine qw_skip (by rfl) ?_
          simp only [Act.put, List.setIfInBounds_toArray, List.set_cons_zero, List.set_cons_succ]
          refine qw_skip (by rfl) ?_
          simp only [Act.put, List.setIfInBounds_toArray, List.set_cons_zero, List.set_cons_succ]
          refine qw_skip (by rfl) ?_
          simp only [Act.put, List.setIfInBounds_toArray, List.set_cons_zero, List.set_cons_succ]
          refine qw_skip (by rfl) ?_
          simp only [Act.put, List.setIfInBounds_toArray, List.set_cons_zero, List.set_cons_succ]
          refine qw_skip (by rfl) ?_
          simp only [Act.put, List.setIfInBounds_toArray, List.set_cons_zero, List.set_cons_succ]
          refine qw_skip (by rfl) ?_
          simp only [Act.put, List.setIfInBounds_toArray, List.set_cons_zero, List.set_cons_succ]
          refine qw_skip (by rfl) ?_
          simp only [Act.put, List.setIfInBounds_toArray, List.set_cons_zero, List.set_cons_succ]
          refine qw_skip (by rfl) ?_
          simp only [Act.put, List.setIfInBounds_toArray, List.set_cons_zero, List.set_cons_succ]
          refine qw_run (v := .bool true) (by rfl) ?_ ?_
          · (intro w1 hC; obtain - := hC; go_simp; first | done | (simp; done) | (simp [*]; done) | omega | (simp; omega))
          simp only [Act.put, List.setIfInBounds_toArray, List.set_cons_zero, List.set_cons_succ]
          refine qw_nil ?_
          intro v5 hC
          have HB2 := hid9 hC
          clear hC HB
          go_wp2
          go_roundw
          case rel => exact ⟨1, by omega, by first | (rw [HS.out]; done) | (rw [HS.out]; rfl), by simp, HB2⟩
          case measure => simp [intOf]; omega
        · obtain ⟨q, hq, hql⟩ := lsK_lt (l := l) (k := k) (by omega) hks
          have HY : Hid (C3 wr b (off + q * 3) (cost0 l[q]) (cost1 l[q]) (cost2 l[q])) := by
            have := rwc_at hc q hql
            exact (show C3 w b (off + q * 3) _ _ _ from this).below HB.out
          have KC := fun w => rcmp9_any l[k] l[q] w
          rw [hq] at HS ⊢
          rw [if_neg (by omega), show ((q : Int)).toNat = q from rfl, getD9 hql] at HS
          have hqn : ¬ (q : Int) < 0 := by omega
          have hqi : (q : Int) < (l.length : Int) := by omega
          clear hbd hk hc hq
          unfold costV at KC
          generalize cost0 l[k] = x0 at *
          generalize cost1 l[k] = x1 at *
          generalize cost2 l[k] = x2 at *
          generalize cost0 l[q] = y0 at *
          generalize cost1 l[q] = y1 at *
          generalize cost2 l[q] = y2 at *
          generalize cmpN l[k] l[q] = c at *
          obtain ⟨bb, hbb⟩ : ∃ t : Bool, decide (c < 0) = t := ⟨_, rfl⟩
          have HT : Hid (lsK l (k + 1) = if bb = true then (k : Int) else (q : Int)) := by
            show _ = _
            rw [HS.out, ← hbb]
            by_cases z : c < 0 <;> simp [z]
          clear HS
          go_wp2_with fail
          have hd5 := below_drewN (Below.refl wr.heap.size wr) 1
          refine qw_region (C := fun W => C3 W b (off + k * 3) x0 x1 x2 ∧ C3 W b (off + q * 3) y0 y1 y2 ∧ Below w.heap.size w W) (by kernel_rfl) (by kernel_rfl) ⟨HX.out.below hd5, HY.out.below hd5, keepb hd5 HB.out⟩ ?_
          refine qw_run (v := .int .i64 (q : Int)) (by rfl) ?_ ?_
          · (intro w1 hC; obtain ⟨⟨g0, g1, g2⟩, ⟨h0, h1, h2⟩, -⟩ := hC; go_simp; first | done | (simp; done) | (simp [*]; done) | omega | (simp; omega))
          simp only [Act.put, List.setIfInBounds_toArray, List.set_cons_zero, List.set_cons_succ]
          refine qw_run (v := .bool false) (by rfl) ?_ ?_
          · (intro w1 hC; obtain ⟨⟨g0, g1, g2⟩, ⟨h0, h1, h2⟩, -⟩ := hC; go_simp; first | done | (simp; done) | (simp [*]; done) | omega | (simp; omega))
          simp only [Act.put, List.setIfInBounds_toArray, List.set_cons_zero, List.set_cons_succ]
          refine qw_run (v := .bool false) (by rfl) ?_ ?_
          · (intro w1 hC; obtain ⟨⟨g0, g1, g2⟩, ⟨h0, h1, h2⟩, -⟩ := hC; go_simp; first | done | (simp; done) | (simp [*]; done) | omega | (simp; omega))
          simp only [Act.put, List.setIfInBounds_toArray, List.set_cons_zero, List.set_cons_succ]
          refine qw_run (v := .slice (some ⟨b, off, none⟩) l.length cc) (by rfl) ?_ ?_
          · (intro w1 hC; obtain ⟨⟨g0, g1, g2⟩, ⟨h0, h1, h2⟩, -⟩ := hC; go_simp; first | done | (simp; done) | (simp [*]; done) | omega | (simp; omega))
          simp only [Act.put, List.setIfInBounds_toArray, List.set_cons_zero, List.set_cons_succ]
          refine qw_run (v := .int .i64 (k : Int)) (by rfl) ?_ ?_
          · (intro w1 hC; obtain ⟨⟨g0, g1, g2⟩, ⟨h0, h1, h2⟩, -⟩ := hC; go_simp; first | done | (simp; done) | (simp [*]; done) | omega | (simp; omega))
          simp only [Act.put, List.setIfInBounds_toArray, List.set_cons_zero, List.set_cons_succ]
          refine qw_run (v := .pointer (some ⟨b, off + k * 3, none⟩)) (by rfl) ?_ ?_
          · (intro w1 hC; obtain ⟨⟨g0, g1, g2⟩, ⟨h0, h1, h2⟩, -⟩ := hC; go_simp; first | done | (simp; done) | (simp [*]; done) | omega | (simp; omega))
          simp only [Act.put, List.setIfInBounds_toArray, List.set_cons_zero, List.set_cons_succ]
          refine qw_run (v := .agg #[.int .u64 x0, .int .u64 x1, .int .u64 x2]) (by rfl) ?_ ?_
          · (intro w1 hC; obtain ⟨⟨g0, g1, g2⟩, ⟨h0, h1, h2⟩, -⟩ := hC; go_simp; first | done | (simp; done) | (simp [*]; done) | omega | (simp; omega))
          simp only [Act.put, List.setIfInBounds_toArray, List.set_cons_zero, List.set_cons_succ]
          refine qw_run (v := .slice (some ⟨b, off, none⟩) l.length cc) (by rfl) ?_ ?_
          · (intro w1 hC; obtain ⟨⟨g0, g1, g2⟩, ⟨h0, h1, h2⟩, -⟩ := hC; go_simp; first | done | (simp; done) | (simp [*]; done) | omega | (simp; omega))
          simp only [Act.put, List.setIfInBounds_toArray, List.set_cons_zero, List.set_cons_succ]
          refine qw_run (v := .int .i64 (q : Int)) (by rfl) ?_ ?_
          · (intro w1 hC; obtain ⟨⟨g0, g1, g2⟩, ⟨h0, h1, h2⟩, -⟩ := hC; go_simp; first | done | (simp; done) | (simp [*]; done) | omega | (simp; omega))
          simp only [Act.put, List.setIfInBounds_toArray, List.set_cons_zero, List.set_cons_succ]
          refine qw_run (v := .pointer (some ⟨b, off + q * 3, none⟩)) (by rfl) ?_ ?_
          · (intro w1 hC; obtain ⟨⟨g0, g1, g2⟩, ⟨h0, h1, h2⟩, -⟩ := hC; go_simp; first | done | (simp; done) | (simp [*]; done) | omega | (simp; omega))
          simp only [Act.put, List.setIfInBounds_toArray, List.set_cons_zero, List.set_cons_succ]
          refine qw_run (v := .agg #[.int .u64 y0, .int .u64 y1, .int .u64 y2]) (by rfl) ?_ ?_
          · (intro w1 hC; obtain ⟨⟨g0, g1, g2⟩, ⟨h0, h1, h2⟩, -⟩ := hC; go_simp; first | done | (simp; done) | (simp [*]; done) | omega | (simp; omega))
          simp only [Act.put, List.setIfInBounds_toArray, List.set_cons_zero, List.set_cons_succ]
          refine qw_call (v := .int .i64 c) (f := 19) (args := #[.agg #[.int .u64 x0, .int .u64 x1, .int .u64 x2], .agg #[.int .u64 y0, .int .u64 y1, .int .u64 y2]]) (by rfl) ?_ ?_ ?_
          · (intro w1 hC; clear hC; go_simp)
          · exact fun w1 hC => (KC w1).mono fun e w' ⟨he, hb⟩ => ⟨he, hC.1.below hb, hC.2.1.below hb, keepb hb hC.2.2⟩
          simp only [Act.put, List.setIfInBounds_toArray, List.set_cons_zero, List.set_cons_succ]
          refine qw_run (v := .bool bb) (by rfl) ?_ ?_
          · (intro w1 hC; obtain ⟨⟨g0, g1, g2⟩, ⟨h0, h1, h2⟩, -⟩ := hC; go_simp; first | done | (simp; done) | (simp [*]; done) | omega | (simp; omega))
          simp only [Act.put, List.setIfInBounds_toArray, List.set_cons_zero, List.set_cons_succ]
          refine qw_run (v := .bool bb) (by rfl) ?_ ?_
          · (intro w1 hC; obtain ⟨⟨g0, g1, g2⟩, ⟨h0, h1, h2⟩, -⟩ := hC; go_simp; first | done | (simp; done) | (simp [*]; done) | omega | (simp; omega))
          simp only [Act.put, List.setIfInBounds_toArray, List.set_cons_zero, List.set_cons_succ]
          refine qw_nil ?_
          intro v5 hC
          have HB2 := hid9 hC.2.2
          clear hC HB HX HY hd5 KC
          cases bb
          · go_wp2
            go_roundw
            case rel => exact ⟨k + 1, by omega, by first | (rw [HT.out]; done) | (rw [HT.out]; rfl), by go_num, HB2⟩
            case measure => simp [intOf]; omega
          · go_wp2
            go_roundw
            case rel => exact ⟨k + 1, by omega, by first | (rw [HT.out]; done) | (rw [HT.out]; rfl), by go_num, HB2⟩
            case measure => simp [intOf]; omega
    · have hk8 : k = l.length := by omega
      have hd : ¬ k < l.length := by omega
      subst hk8
      clear HV
      go_wp2
      go_ret
      exact ⟨rfl, HB.out⟩
end Go.Proofs.Ytnaamkkjledllaa
/-
  The law CostLeast: the place of the least one.
-/
namespace Go.Proofs.Ytnaamkkjledllaa
open Go.RowKit
set_option linter.unusedSimpArgs false
set_option linter.unusedVariables false

theorem spot9 {W : World} {a : Addr} {u : Value} (h : W.cell? a = some u) : a = ⟨a.block, a.off, none⟩ := by
  obtain ⟨b, o, s⟩ := a
  cases s with
  | none => rfl
  | some z =>
    unfold World.cell? at h
    split at h
    · simp at h
    · cases h
/-- A row that was handed in: n elements of so many cells. -/
def RowA (w : World) (size : Nat) (v : Value) (n : Nat) (xs : List Value) : Prop :=
  xs.length = n * size ∧ ∃ ao c, v = .slice ao n c ∧ n ≤ c ∧ ((ao = none ∧ c = 0 ∧ n = 0) ∨ ∃ a : Addr, ao = some a ∧ ∀ j u, xs[j]? = some u → w.cell? (a.add j) = some u)
theorem RowA.below {w w' : World} {size n : Nat} {v : Value} {xs : List Value} (h : RowA w size v n xs) (hb : Below w.heap.size w w') : RowA w' size v n xs := by
  obtain ⟨hl, ao, c, e, hc, h⟩ := h
  refine ⟨hl, ao, c, e, hc, ?_⟩
  rcases h with h | ⟨a, e, h⟩
  · exact .inl h
  · refine .inr ⟨a, e, fun j u hj => ?_⟩
    have f := h j u hj
    have sp := spot9 f
    rw [sp]
    rw [sp] at f
    exact keepc hb f
theorem wpList_append_rowA {P : Program} {w : World} {ops : Array Oper} {rest : List Oper} {o : Oper} {a : Act} {Q : Exit → Act → World → Prop} (hgd : o.guard = none) (s x : Operand) (t : TypeId)
    (ho : o.op = .call { callee := .builtin .append, args := #[s, x], argTypes := #[t, t] })
    (base : Nat) (e : TypeId) (i : TypeInfo) (z : Value) (size bytes : Nat) (ht : P.underlying t = some (.slice e)) (hi : P.info? e = some i) (hz : i.zero = some z)
    (hsize : i.size = size) (hby : i.bytes = bytes) (hzs : z.cells.size = size) (hsz : 0 < size)
    (v : Value) (n : Nat) (xs : List Value) (hs : a.eval s = v) (hown : w.ownsRow base e size v n xs)
    (vx : Value) (m : Nat) (news : List Value) (hx : a.eval x = vx) (hsrc : RowA w size vx m news) (h1 : ∀ y ∈ news, y.oneCell' = true)
    (h63 : n + m ≤ maxLen) (hbytes : (n + m) * bytes ≤ 140737488355328) (hbase : base ≤ w.heap.size)
    (h : ∀ ao cap w', w'.ownsRow base e size (.slice ao (n + m) cap) (n + m) (xs ++ news) → w.grownBy w' v.ownBlock → wpList P ops Q rest (a.put o.dst (.slice ao (n + m) cap)) w') : wpList P ops Q (o :: rest) a w := by
  obtain ⟨hl, xo, c, rfl, hcc, hsrc⟩ := hsrc
  rcases hsrc with ⟨rfl, rfl, rfl⟩ | ⟨ad, rfl, hc⟩
  · have : news = [] := List.eq_nil_of_length_eq_zero (by omega)
    subst this
    refine wpList_append_own_none hgd s x t ho base e i size ht hi v n xs hs hown hx ?_
    obtain ⟨ao, cp, hv⟩ := own_form hown
    have := h ao cp w (by rw [List.append_nil, Nat.add_zero, ← hv]; exact hown) ⟨rfl, rfl, rfl, Nat.le_refl _, fun _ _ _ => rfl⟩
    rw [Nat.add_zero, ← hv] at this
    exact this
  · refine wpList_append_own w hgd s x t ho base e i z size bytes ht hi hz hsize hby hzs hsz v n xs hs hown ad m c news hx hl hc h1 h63 hbytes hbase ?_
    intro v' w' h2 h3 _
    obtain ⟨ao, cp, hv⟩ := own_form h2
    rw [hv]
    rw [hv] at h2
    exact h ao cp w' h2 h3
theorem stopHere9 {P : Program} {w : World} {ops : Array Oper} {rest : List Oper} {a : Act} {Q : Exit → Act → World → Prop} {o : Oper} (h : Hid (wpList P ops Q (o :: rest) a w)) : wpList P ops Q (o :: rest) a w := h.out
theorem Try.infoC : (Try.prog.info? 24).map (fun i => (i.zero, i.size, i.bytes)) = some (some (.agg #[.int .u64 0, .int .u64 0, .int .u64 0]), 3, 24) := by kernel_rfl
set_option maxRecDepth 20000 in
set_option maxHeartbeats 16000000 in
theorem costLeast_any (v : Value) (l : List Nat) (w : World) (hl : l.length * 24 ≤ 140737488355328) (hA : RowA w 3 v l.length (rowC l)) (hR : RwC w v l) :
    Calls Try.prog 4 #[v] w fun e w' => e = .returned (.bool true) ∧ Below w.heap.size w w' := by
  have KK := known9_any
  obtain ⟨i0, hi, hz⟩ : ∃ i, Try.prog.info? 24 = some i ∧ (i.zero, i.size, i.bytes) = (some (.agg #[.int .u64 0, .int .u64 0, .int .u64 0]), 3, 24) := by
    have := Try.infoC
    cases h : Try.prog.info? 24 with
    | none => rw [h] at this; cases this
    | some i => rw [h] at this; exact ⟨i, rfl, by simpa using this⟩
  have hz0 : i0.zero = some (.agg #[.int .u64 0, .int .u64 0, .int .u64 0]) := by injection hz
  have hz1 : i0.size = 3 := by injection hz with _ h; injection h
  have hz2 : i0.bytes = 24 := by injection hz with _ h; injection h
  obtain ⟨-, ao, cc, rfl, -, -⟩ := id hA
  have HA := hid9 hA
  have HR := hid9 hR
  clear hA hR
  go_enter Try.func4, Try.ntmps4
  go_wp2_with (at_builtin; apply stopHere9)
  refine (show wpList _ _ _ _ _ _ from ?_)
  have q1 := bl1 w (.cells #[] 24)
  have HA1 : Hid (RowA (w.alloc (.cells #[] 24)) 3 (.slice ao l.length cc) l.length (rowC l)) := RowA.below HA.out q1
  refine wpList_append_rowA rfl _ _ 38 rfl w.heap.size 24 i0 (.agg #[.int .u64 0, .int .u64 0, .int .u64 0]) 3 24 Try.underlying38 hi hz0 hz1 hz2 rfl (by decide) (.slice (some ⟨w.heap.size, 0, none⟩) 0 0) 0 [] rfl (World.ownsRow_made w #[] 0 (Nat.le_refl _) (by unfold maxLen; omega) (by simp)) (.slice ao l.length cc) l.length (rowC l) rfl HA1.out (rowC_cell l) (by unfold maxLen; omega) (by omega) (by simp) ?_
  intro mo mc w4 hm hgrow
  rw [Nat.zero_add, List.nil_append] at hm
  rw [Nat.zero_add]
  have kB4 : Below w.heap.size w w4 := (Below.grown ((Below.refl _ _).alloc (Nat.le_refl _) _) hgrow (by simp) (fun z hz => by simp [Value.ownBlock] at hz; omega))
  have HM := hid9 (row_rwc (own_row hm))
  have HB4 := hid9 kB4
  have HR4 := hid9 (HR.out.below kB4)
  clear hm hgrow kB4 HA1 q1 HA HR
  have hl2 : l.length ≤ 9223372036854775806 := by omega
  have KL := least9_any (.slice mo l.length mc) l
  have RL := rleast9_any (.slice ao l.length cc) l
  go_wp2_with fail
  refine (KL _ HM.out hl2).mono ?_
  rintro e w5 ⟨rfl, hb5⟩
  have HM5 := hid9 (HM.out.below hb5)
  have HR5 := hid9 (HR4.out.below hb5)
  have HB5 := hid9 (keepb hb5 HB4.out)
  clear HM HR4 HB4 hb5 KL
  generalize hL : lsK l l.length = L at *
  clear hL
  go_wp2_with fail
  go_loopw [5] (fun i wr => ∃ k : Nat, k ≤ l.length ∧ i = .int .i64 (k : Int) ∧ Hid (RwC wr (.slice mo l.length mc) l ∧ RwC wr (.slice ao l.length cc) l ∧ Below w.heap.size w wr)) (fun i _ => l.length - (intOf i).toNat)
  case atStart => exact ⟨0, by omega, rfl, ⟨HM5.out, HR5.out, HB5.out⟩⟩
  case round =>
    clear HM5 HR5 HB5
    obtain ⟨k, hk, rfl, HE⟩ := hrel
    by_cases hlt : (k : Int) < (l.length : Int)
    · have hks : k < l.length := by omega
      have mk : IntKind.i64.wrap ((k : Int) + 1) = (k : Int) + 1 := by rw [IntKind.wrap_i64]; omega
      obtain ⟨ao1, c1, e1, h1⟩ := HE.out.1
      obtain ⟨ao2, c2, e2, h2⟩ := HE.out.2.1
      injection e1 with e11 e12 e13
      injection e2 with e21 e22 e23
      subst e11 e13 e21 e23
      rcases h1 with h | ⟨b1, o1, rfl, hc1⟩
      · rw [h] at hks; simp at hks
      rcases h2 with h | ⟨b2, o2, rfl, hc2⟩
      · rw [h] at hks; simp at hks
      obtain ⟨x0, x1, x2⟩ := rwc_at hc1 k hks
      obtain ⟨y0, y1, y2⟩ := rwc_at hc2 k hks
      have hq := eqC_same (cost0 l[k]) (cost1 l[k]) (cost2 l[k])
      have HE2 : Hid (∀ q, RwC (wr.drewN q) (.slice (some ⟨b1, o1, none⟩) l.length mc) l ∧ RwC (wr.drewN q) (.slice (some ⟨b2, o2, none⟩) l.length cc) l ∧ Below w.heap.size w (wr.drewN q)) := fun q =>
        have hb := below_drewN (Below.refl wr.heap.size wr) q
        ⟨HE.out.1.below hb, HE.out.2.1.below hb, keepb hb HE.out.2.2⟩
      clear HE hc1 hc2 e12 e22
      generalize cost0 l[k] = v0 at *
      generalize cost1 l[k] = v1 at *
      generalize cost2 l[k] = v2 at *
      go_wp2_with fail
      go_quiet (fail)
      go_wp2
      go_roundw
      case rel => exact ⟨k + 1, by omega, by go_num, HE2.out _⟩
      case measure => simp [intOf]; omega
    · have hd : ¬ k < l.length := by omega
      have HR6 := hid9 HE.out.2.1
      have HB6 := hid9 HE.out.2.2
      clear HE hlt
      go_wp2_with fail
      refine (KK _).mono ?_
      rintro e w6 ⟨rfl, hb⟩
      have HR7 := hid9 (HR6.out.below hb)
      have HB7 := hid9 (keepb hb HB6.out)
      clear HR6 HB6 hb KK
      go_wp2_with fail
      refine (RL _ HR7.out hl2).mono ?_
      rintro e w7 ⟨rfl, hb⟩
      have HB8 := hid9 (keepb hb HB7.out)
      clear HR7 HB7 hb RL
      go_wp2
      go_ret
      exact ⟨rfl, HB8.out⟩
end Go.Proofs.Ytnaamkkjledllaa
/-
  How a row of numbers of 192 bits that is handed in reads as data.
-/
namespace Go.Proofs.Ytnaamkkjledllaa
open Go.ChangeShapes Go.WideShapes Go.ChangeAt Go.RowKit Go.Joins
set_option linter.unusedSimpArgs false
set_option linter.unusedVariables false

theorem Try.laidOut : laidOutB Try.prog = true := by kernel_rfl
theorem rowC_all {W : World} {a : Addr} (l : List Nat) (h : ∀ i (hi : i < l.length), W.cell? (a.add (i * 3)) = some (.int .u64 (cost0 l[i])) ∧ W.cell? (a.add (i * 3 + 1)) = some (.int .u64 (cost1 l[i])) ∧ W.cell? (a.add (i * 3 + 2)) = some (.int .u64 (cost2 l[i]))) :
    ∀ j u, (rowC l)[j]? = some u → W.cell? (a.add j) = some u := by
  intro j u hj
  have hlt : j < (rowC l).length := (List.getElem?_eq_some_iff.1 hj).1
  rw [rowC_len] at hlt
  have hi : j / 3 < l.length := by omega
  obtain ⟨a0, a1, a2⟩ := h (j / 3) hi
  obtain ⟨b0, b1, b2⟩ := rowC_get l (j / 3) hi
  have hm : j % 3 = 0 ∨ j % 3 = 1 ∨ j % 3 = 2 := by omega
  rcases hm with hm | hm | hm
  · have e : j = j / 3 * 3 := by omega
    rw [e, b0] at hj
    rw [e, ← hj]; exact a0
  · have e : j = j / 3 * 3 + 1 := by omega
    rw [e, b1] at hj
    rw [e, ← hj]; exact a1
  · have e : j = j / 3 * 3 + 2 := by omega
    rw [e, b2] at hj
    rw [e, ← hj]; exact a2
section
variable {H : Type} {enc : TypeId × Value → H} {w : World} {spare : Nat → Bool} {held : Bool}
set_option maxRecDepth 100000 in
theorem trod_cost {n : Nat} {c0 c1 c2 : Value} {x : DataW H × List MemPlace} (h : DataW.trod enc Try.prog w 0 spare held n 24 [c0, c1, c2] = some x) :
    ∃ N : Nat, c0 = .int .u64 (cost0 N) ∧ c1 = .int .u64 (cost1 N) ∧ c2 = .int .u64 (cost2 N) := by
  obtain ⟨y0, y1, y2, m, hx, hy0, hy1, hy2⟩ := trod_array3 Try.underlying24 Try.cellsU9 h
  obtain ⟨a, ea, rfl, wa⟩ := DataW.trod_int Try.underlying22 hy0
  obtain ⟨b, eb, rfl, wb⟩ := DataW.trod_int Try.underlying22 hy1
  obtain ⟨c, ec, rfl, wc⟩ := DataW.trod_int Try.underlying22 hy2
  simp at ea eb ec
  subst ea eb ec
  obtain ⟨N, -, e0, e1, e2⟩ := cost_mk a b c (u64_bdC wa).1 (u64_bdC wa).2 (u64_bdC wb).1 (u64_bdC wb).2 (u64_bdC wc).1 (u64_bdC wc).2
  exact ⟨N, by rw [e0], by rw [e1], by rw [e2]⟩
theorem add_add (a : Addr) (i j : Nat) : (a.add i).add j = a.add (i + j) := by
  unfold Addr.add
  by_cases h : i = 0
  · subst h; simp
  · by_cases g : j = 0
    · subst g; simp [h]
    · have : ¬ i + j = 0 := by omega
      simp [h, g, Nat.add_assoc]
set_option maxRecDepth 100000 in
theorem open_costs {r : Reach} {b0 : Nat} {v : Value} {d : DataW H} {p : List MemPlace} (hv : Value.okWide Try.prog w r b0 38 v) (h : DataW.Trod enc Try.prog w 0 (fun _ => true) held 38 v d p) :
    ∃ l : List Nat, RowA w 3 v l.length (rowC l) ∧ RwC w v l ∧ (l = [] ∨ ∃ el sp, d = .slice el sp ∧ el.length = l.length) := by
  obtain ⟨a0, len, cap, rfl⟩ := okWide_slice Try.underlying38 hv
  obtain ⟨fuel, hf⟩ := h
  rcases Deep.open_slice Try.underlying38 hf with ⟨hcs, hx⟩ | ⟨a, len', cap', m, n, D, Pl, hcs, _, hl, hm, hmm, hx, hel⟩
  · simp [Value.cells] at hcs
    obtain ⟨rfl, rfl, rfl⟩ := hcs
    exact ⟨[], ⟨rfl, none, 0, rfl, Nat.le_refl _, .inl ⟨rfl, rfl, rfl⟩⟩, ⟨none, 0, rfl, .inl rfl⟩, .inl rfl⟩
  · simp [Value.cells] at hcs
    obtain ⟨rfl, rfl, rfl⟩ := hcs
    simp at hmm
    subst hmm
    rw [Try.cellsC] at hel
    obtain ⟨f, hf⟩ := Deep.choose_lt (α := Nat) (n := len) (p := fun i x => w.cell? (a.add (i * 3)) = some (.int .u64 (cost0 x)) ∧ w.cell? ((a.add (i * 3)).add 1) = some (.int .u64 (cost1 x)) ∧ w.cell? ((a.add (i * 3)).add 2) = some (.int .u64 (cost2 x))) (fun i hi => by
      obtain ⟨cs', h1, h2⟩ := hel i (by omega)
      obtain ⟨_, hlen, hc⟩ := World.cells?_some h1
      match cs', hlen with
      | [c0, c1, c2], _ =>
        obtain ⟨N, rfl, rfl, rfl⟩ := trod_cost h2
        refine ⟨N, ?_, ?_, ?_⟩
        · simpa [Addr.add] using hc 0 (by omega)
        · simpa using hc 1 (by omega)
        · simpa using hc 2 (by omega))
    have hlen : ((List.range len).map f).length = len := by simp
    have hcells : ∀ j u, (rowC ((List.range len).map f))[j]? = some u → w.cell? (a.add j) = some u := by
      refine rowC_all _ ?_
      intro i hi
      have hi' : i < len := by simpa using hi
      obtain ⟨k0, k1, k2⟩ := hf i hi'
      rw [add_add] at k1 k2
      simpa using ⟨k0, k1, k2⟩
    refine ⟨(List.range len).map f, ⟨rowC_len _, some a, m, by rw [hlen], by rw [hlen]; exact hl, .inr ⟨a, rfl, hcells⟩⟩, ⟨some a, m, by rw [hlen], ?_⟩, ?_⟩
    · by_cases hz : len = 0
      · subst hz
        exact .inl (by simp)
      · have h00 := (hf 0 (by omega)).1
        have ea : a = ⟨a.block, a.off, none⟩ := by
          have : a.add (0 * 3) = a := by simp [Addr.add]
          rw [this] at h00
          exact spot9 h00
        refine .inr ⟨a.block, a.off, by rw [← ea], fun j u hj => ?_⟩
        have := hcells j u hj
        rw [ea, addA] at this
        exact this
    · simp only [Prod.mk.injEq] at hx
      exact .inr ⟨_, _, hx.1, by simp⟩
end
end Go.Proofs.Ytnaamkkjledllaa
