/-
  Part 21 of the proof: 3 texts, one behind the other.
-/
import Derived.Test.YtmkjlcfoedglmaaDoorPart9
import Derived.Test.YtmkjlcfoedglmaaDoorPart20
import Derived.Test.YtmkjlcfoedglmaaDoorPart6
import Derived.Test.YtmkjlcfoedglmaaDoorPart12
/-
  What the call of slices.BinarySearchFunc does at segments, with package algebra's comparison.
-/
namespace Go.Proofs.YtmkjlcfoedglmaaDoor
open Go.RowKit
set_option linter.unusedSimpArgs false
set_option linter.unusedVariables false

theorem cmpG_any (x n : BitVec 128) (h : Int) (y : BitVec 128) (w : World) :
    Calls Tryd.prog 32 #[.agg #[.int .u64 (hI x), .int .u64 (lI x), .int .u64 (hI n), .int .u64 (lI n), .int .i64 h], .agg #[.int .u64 (hI y), .int .u64 (lI y)]] w fun e w' => e = .returned (.int .i64 (cmpZ n y)) ∧ Below w.heap.size w w' := by
  have KC := fun w => cmp_any n y w
  generalize cmpZ n y = z at *
  have A1 := atg_new w w.heap.size x n h 39 rfl
  have b1 := bl1 w (.cells #[.int .u64 (hI x), .int .u64 (lI x), .int .u64 (hI n), .int .u64 (lI n), .int .i64 h] 39)
  have b2 := bl1 (w.alloc (.cells #[.int .u64 (hI x), .int .u64 (lI x), .int .u64 (hI n), .int .u64 (lI n), .int .i64 h] 39)) (.cells #[.int .u64 (hI y), .int .u64 (lI y)] 27)
  obtain ⟨p0, p1, p2, p3, p4⟩ := A1.below b2
  obtain ⟨q0, q1, -⟩ := at_new (w.alloc (.cells #[.int .u64 (hI x), .int .u64 (lI x), .int .u64 (hI n), .int .u64 (lI n), .int .i64 h] 39)) (w.heap.size + 1) y 27 (by simp)
  have HB := hidR (keepb b2 b1)
  clear A1 b1 b2
  go_enter Tryd.func32, Tryd.ntmps32
  go_wp2_with fail
  refine (KC _).mono ?_
  rintro e w1 ⟨rfl, hb⟩
  have kB := keepb hb HB.out
  clear KC hb HB p0 p1 p2 p3 p4 q0 q1
  go_wp2
  go_ret
  exact ⟨rfl, kB⟩
/-- The place sought for, and a route of the row. -/
def CBg (w : World) (b o : Nat) (y : BitVec 128) (x n : BitVec 128) (h : Int) (W : World) : Prop := At W w.heap.size y ∧ (W.cell? ⟨b, o, none⟩ = some (.int .u64 (hI x)) ∧ W.cell? ⟨b, o + 1, none⟩ = some (.int .u64 (lI x)) ∧ W.cell? ⟨b, o + 2, none⟩ = some (.int .u64 (hI n)) ∧ W.cell? ⟨b, o + 3, none⟩ = some (.int .u64 (lI n)) ∧ W.cell? ⟨b, o + 4, none⟩ = some (.int .i64 h)) ∧ Below w.heap.size w W
theorem CBg.below {w W W' : World} {b o : Nat} {y : BitVec 128} {x n : BitVec 128} {h : Int} (g : CBg w b o y x n h W) (hb : Below W.heap.size W W') : CBg w b o y x n h W' := ⟨g.1.below hb, ⟨keepc hb g.2.1.1, keepc hb g.2.1.2.1, keepc hb g.2.1.2.2.1, keepc hb g.2.1.2.2.2.1, keepc hb g.2.1.2.2.2.2⟩, keepb hb g.2.2⟩
theorem CBg.drew {w W : World} {b o : Nat} {y : BitVec 128} {x n : BitVec 128} {h : Int} (g : CBg w b o y x n h W) : CBg w b o y x n h W.drew := ⟨g.1, g.2.1, g.2.2.drew⟩
/-- How a segment stands to an address. -/
def toG (y : BitVec 128) (s : Sg) : Int := cmpZ s.1.2 y
set_option maxRecDepth 20000 in
set_option maxHeartbeats 8000000 in
theorem searchG_any (y : BitVec 128) (v : Value) (l : List Sg) (w : World) (hv : RwG w v l) (hl : l.length ≤ 1000000000) (hmono : ∀ (a b : Nat) (hb : b < l.length) (hab : a ≤ b), toG y l[b] < 0 → toG y (l[a]'(by omega)) < 0) :
    Calls Tryd.prog 31 #[v, .agg #[.int .u64 (hI y), .int .u64 (lI y)], .func (.func 32) #[] #[]] w fun e w' => (∃ i : Nat, i ≤ l.length ∧ (∀ (j : Nat) (hj : j < l.length), j < i ↔ toG y l[j] < 0) ∧ e = .returned (.tuple #[.int .i64 i, .bool (match l[i]? with | some r => decide (toG y r = 0) | none => false)])) ∧ Below w.heap.size w w' := by
  obtain ⟨ao, c, rfl, hv⟩ := hv
  have HV := hidR hv
  have HM := hidR hmono
  have A0 := hidR (at_new w w.heap.size y 27 rfl)
  have b0 := bl1 w (.cells #[.int .u64 (hI y), .int .u64 (lI y)] 27)
  clear hv hmono
  go_enter Tryd.func31, Tryd.ntmps31
  go_wp2_with fail
  go_loopw [9, 10] (fun p q wr => ∃ i j : Nat, p = .int .i64 i ∧ q = .int .i64 j ∧ i ≤ j ∧ j ≤ l.length ∧ Hid ((∀ (a : Nat) (ha : a < l.length), a < i → toG y l[a] < 0) ∧ (∀ (a : Nat) (ha : a < l.length), j ≤ a → 0 ≤ toG y l[a])) ∧ Hid (At wr w.heap.size y) ∧ Hid (Below w.heap.size w wr)) (fun p q _ => (intOf q).toNat - (intOf p).toNat)
  case atStart => exact ⟨0, l.length, rfl, rfl, by omega, by omega, ⟨fun a ha h => by omega, fun a ha h => by omega⟩, A0, b0⟩
  case round =>
    clear A0 b0
    obtain ⟨i, j, rfl, rfl, hij, hjl, HI, HA, HB⟩ := hrel
    by_cases hlt : (i : Int) < (j : Int)
    · rcases HV.out with e | ⟨b, off, rfl, hc⟩
      · rw [e] at hjl; simp at hjl; omega
      · obtain ⟨q, hq⟩ : ∃ q, q = (i + j) / 2 := ⟨_, rfl⟩
        have hq1 : i ≤ q := by omega
        have hq2 : q < j := by omega
        have hw1 : IntKind.i64.wrap ((i : Int) + (j : Int)) = (i : Int) + (j : Int) := by rw [IntKind.wrap_i64]; omega
        have hw2 : IntKind.u64.wrap ((i : Int) + (j : Int)) = (i : Int) + (j : Int) := by rw [IntKind.wrap_u64]; omega
        have hqi : ((i : Int) + (j : Int)) / 2 = (q : Int) := by omega
        have hql : q < l.length := by omega
        obtain ⟨x0, x1, x2, x3, x4⟩ := rwg_cells hc q hql
        have HC := hidR (CBg.drew ⟨HA.out, ⟨keepc HB.out x0, keepc HB.out x1, keepc HB.out x2, keepc HB.out x3, keepc HB.out x4⟩, HB.out⟩ : CBg w b (off + q * 5) y l[q].1.1 l[q].1.2 l[q].2 wr.drew)
        have KC := fun w => cmpG_any l[q].1.1 l[q].1.2 l[q].2 y w
        have HZ : Hid (toG y l[q] = cmpZ l[q].1.2 y) := rfl
        clear x0 x1 x2 x3 x4 hc HA HB
        revert KC HZ HC
        generalize cmpZ l[q].1.2 y = cz
        generalize l[q].1.1 = x
        generalize l[q].1.2 = n
        generalize l[q].2 = h
        intro HC KC HZ
        clear hq
        go_wp2_with fail
        refine qp_region2 8 (qpOk 8 8 (by decide) (fun N => by kernel_rfl) (by kernel_rfl) (by kernel_rfl) (by kernel_rfl) (by kernel_rfl)) (C := CBg w b (off + q * 5) y x n h) [some 24, some 25, some 26, some 27, some 28, some 29, some 30, some 31] [.func (.func 32) #[] #[], .slice (some ⟨b, off, none⟩) l.length c, .int .i64 (q : Int), .pointer (some ⟨b, off + q * 5, none⟩), .agg #[.int .u64 (hI x), .int .u64 (lI x), .int .u64 (hI n), .int .u64 (lI n), .int .i64 h], .agg #[.int .u64 (hI y), .int .u64 (lI y)], .int .i64 cz, .bool (decide (cz < 0))] (by kernel_rfl) HC.out ?walk ?fin
        case walk =>
          dsimp only [List.take]
          refine q_run (v := .func (.func 32) #[] #[]) (by rfl) ?_ ?_
          · (intro w1 hC; obtain ⟨⟨z0, z1, -, -, -⟩, ⟨x0, x1, x2, x3, x4⟩, -⟩ := hC; go_simp; first | done | (simp; done) | (simp [*]; done) | omega | (simp; omega) | (rw [IntKind.wrap_i64]; omega) | (intro hx; omega) | rfl)
          simp only [Act.put, List.setIfInBounds_toArray, List.set_cons_zero, List.set_cons_succ]
          refine q_run (v := .slice (some ⟨b, off, none⟩) l.length c) (by rfl) ?_ ?_
          · (intro w1 hC; obtain ⟨⟨z0, z1, -, -, -⟩, ⟨x0, x1, x2, x3, x4⟩, -⟩ := hC; go_simp; first | done | (simp; done) | (simp [*]; done) | omega | (simp; omega) | (rw [IntKind.wrap_i64]; omega) | (intro hx; omega) | rfl)
          simp only [Act.put, List.setIfInBounds_toArray, List.set_cons_zero, List.set_cons_succ]
          refine q_run (v := .int .i64 (q : Int)) (by rfl) ?_ ?_
          · (intro w1 hC; obtain ⟨⟨z0, z1, -, -, -⟩, ⟨x0, x1, x2, x3, x4⟩, -⟩ := hC; go_simp; first | done | (simp; done) | (simp [*]; done) | omega | (simp; omega) | (rw [IntKind.wrap_i64]; omega) | (intro hx; omega) | rfl)
          simp only [Act.put, List.setIfInBounds_toArray, List.set_cons_zero, List.set_cons_succ]
          refine q_run (v := .pointer (some ⟨b, off + q * 5, none⟩)) (by rfl) ?_ ?_
          · (intro w1 hC; obtain ⟨⟨z0, z1, -, -, -⟩, ⟨x0, x1, x2, x3, x4⟩, -⟩ := hC; go_simp; first | done | (simp; done) | (simp [*]; done) | omega | (simp; omega) | (rw [IntKind.wrap_i64]; omega) | (intro hx; omega) | rfl)
          simp only [Act.put, List.setIfInBounds_toArray, List.set_cons_zero, List.set_cons_succ]
          refine q_run (v := .agg #[.int .u64 (hI x), .int .u64 (lI x), .int .u64 (hI n), .int .u64 (lI n), .int .i64 h]) (by rfl) ?_ ?_
          · (intro w1 hC; obtain ⟨⟨z0, z1, -, -, -⟩, ⟨x0, x1, x2, x3, x4⟩, -⟩ := hC; go_simp; first | done | (simp; done) | (simp [*]; done) | omega | (simp; omega) | (rw [IntKind.wrap_i64]; omega) | (intro hx; omega) | rfl)
          simp only [Act.put, List.setIfInBounds_toArray, List.set_cons_zero, List.set_cons_succ]
          refine q_run (v := .agg #[.int .u64 (hI y), .int .u64 (lI y)]) (by rfl) ?_ ?_
          · (intro w1 hC; obtain ⟨⟨z0, z1, -, -, -⟩, ⟨x0, x1, x2, x3, x4⟩, -⟩ := hC; go_simp; first | done | (simp; done) | (simp [*]; done) | omega | (simp; omega) | (rw [IntKind.wrap_i64]; omega) | (intro hx; omega) | rfl)
          simp only [Act.put, List.setIfInBounds_toArray, List.set_cons_zero, List.set_cons_succ]
          refine q_call (v := .int .i64 cz) (f := 32) (args := #[.agg #[.int .u64 (hI x), .int .u64 (lI x), .int .u64 (hI n), .int .u64 (lI n), .int .i64 h], .agg #[.int .u64 (hI y), .int .u64 (lI y)]]) (by rfl) ?_ ?_ ?_
          · (intro w1 hC; clear hC; go_simp)
          · exact fun w1 hC => (KC w1).mono fun e w' ⟨he, hb⟩ => ⟨he, hC.below hb⟩
          simp only [Act.put, List.setIfInBounds_toArray, List.set_cons_zero, List.set_cons_succ]
          refine q_run (v := .bool (decide (cz < 0))) (by rfl) ?_ ?_
          · (intro w1 hC; obtain ⟨⟨z0, z1, -, -, -⟩, ⟨x0, x1, x2, x3, x4⟩, -⟩ := hC; go_simp; first | done | (simp; done) | (simp [*]; done) | omega | (simp; omega) | (rw [IntKind.wrap_i64]; omega) | (intro hx; omega) | rfl)
          simp only [Act.put, List.setIfInBounds_toArray, List.set_cons_zero, List.set_cons_succ]
          refine wpQuiet_nil ?_
          simp only [putAll, Act.put, List.setIfInBounds_toArray, List.set_cons_zero, List.set_cons_succ]
        case fin =>
          intro W hC
          simp only [putAll, Act.put, List.setIfInBounds_toArray, List.set_cons_zero, List.set_cons_succ]
          dsimp only [List.drop]
          have HA := hidR hC.1
          have HB := hidR hC.2.2
          clear hC HC KC hqi hw1 hw2
          by_cases hz : cz < 0
          · have hw3 : IntKind.i64.wrap ((q : Int) + 1) = (q : Int) + 1 := by rw [IntKind.wrap_i64]; omega
            go_wp2
            go_roundw
            case rel =>
              refine ⟨q + 1, j, by go_num, rfl, by omega, by omega, ⟨fun a ha hh => ?_, HI.out.2⟩, HA, HB⟩
              exact HM.out a q hql (by omega) (by rw [HZ.out]; exact hz)
            case measure => simp [intOf]; omega
          · go_wp2
            go_roundw
            case rel =>
              refine ⟨i, q, rfl, rfl, by omega, by omega, ⟨HI.out.1, fun a ha hh => Int.not_lt.mp fun hn => ?_⟩, HA, HB⟩
              have := HM.out q a ha hh hn
              rw [HZ.out] at this
              omega
            case measure => simp [intOf]; omega
    · have hd : ¬ i < j := by omega
      have hji : j = i := by omega
      subst hji
      by_cases hin : j < l.length
      · rcases HV.out with e | ⟨b, off, rfl, hc⟩
        · rw [e] at hin; simp at hin
        · obtain ⟨x0, x1, x2, x3, x4⟩ := rwg_cells hc j hin
          have HC := hidR (CBg.drew ⟨HA.out, ⟨keepc HB.out x0, keepc HB.out x1, keepc HB.out x2, keepc HB.out x3, keepc HB.out x4⟩, HB.out⟩ : CBg w b (off + j * 5) y l[j].1.1 l[j].1.2 l[j].2 wr.drew)
          have KC := fun w => cmpG_any l[j].1.1 l[j].1.2 l[j].2 y w
          have HR : Hid ((match l[j]? with | some r => decide (toG y r = 0) | none => false) = (cmpZ l[j].1.2 y == 0)) := by
            show _ = _
            rw [List.getElem?_eq_getElem hin]
            rfl
          clear x0 x1 x2 x3 x4 hc HA HB
          revert KC HR HC
          generalize cmpZ l[j].1.2 y = cz
          generalize l[j].1.1 = x
          generalize l[j].1.2 = n
          generalize l[j].2 = h
          intro HC KC HR
          have hin' : (j : Int) < (l.length : Int) := by omega
          go_wp2_with fail
          refine qp_region2 16 (qpOk 16 16 (by decide) (fun N => by kernel_rfl) (by kernel_rfl) (by kernel_rfl) (by kernel_rfl) (by kernel_rfl)) (C := CBg w b (off + j * 5) y x n h) [some 35, some 36, some 37, some 38, some 39, some 40, some 41, some 42, some 43, some 44, some 45, some 46, some 47, some 48, some 6, some 7] [.int .i64 (j : Int), .int .i64 (j : Int), .int .i64 (l.length : Int), .bool true, .bool true, .func (.func 32) #[] #[], .slice (some ⟨b, off, none⟩) l.length c, .int .i64 (j : Int), .pointer (some ⟨b, off + j * 5, none⟩), .agg #[.int .u64 (hI x), .int .u64 (lI x), .int .u64 (hI n), .int .u64 (lI n), .int .i64 h], .agg #[.int .u64 (hI y), .int .u64 (lI y)], .int .i64 cz, .bool (cz == 0), .bool (cz == 0), .int .i64 (j : Int), .bool (cz == 0)] (by kernel_rfl) HC.out ?walk ?fin
          case walk =>
            dsimp only [List.take]
            refine q_run (v := .int .i64 (j : Int)) (by rfl) ?_ ?_
            · (intro w1 hC; obtain ⟨⟨z0, z1, -, -, -⟩, ⟨x0, x1, x2, x3, x4⟩, -⟩ := hC; go_simp; first | done | (simp; done) | (simp [*]; done) | omega | (simp; omega) | (rw [IntKind.wrap_i64]; omega) | (intro hx; omega) | rfl)
            simp only [Act.put, List.setIfInBounds_toArray, List.set_cons_zero, List.set_cons_succ]
            refine q_run (v := .int .i64 (j : Int)) (by rfl) ?_ ?_
            · (intro w1 hC; obtain ⟨⟨z0, z1, -, -, -⟩, ⟨x0, x1, x2, x3, x4⟩, -⟩ := hC; go_simp; first | done | (simp; done) | (simp [*]; done) | omega | (simp; omega) | (rw [IntKind.wrap_i64]; omega) | (intro hx; omega) | rfl)
            simp only [Act.put, List.setIfInBounds_toArray, List.set_cons_zero, List.set_cons_succ]
            refine q_run (v := .int .i64 (l.length : Int)) (by rfl) ?_ ?_
            · (intro w1 hC; obtain ⟨⟨z0, z1, -, -, -⟩, ⟨x0, x1, x2, x3, x4⟩, -⟩ := hC; go_simp; first | done | (simp; done) | (simp [*]; done) | omega | (simp; omega) | (rw [IntKind.wrap_i64]; omega) | (intro hx; omega) | rfl)
            simp only [Act.put, List.setIfInBounds_toArray, List.set_cons_zero, List.set_cons_succ]
            refine q_run (v := .bool true) (by rfl) ?_ ?_
            · (intro w1 hC; obtain ⟨⟨z0, z1, -, -, -⟩, ⟨x0, x1, x2, x3, x4⟩, -⟩ := hC; go_simp; first | done | (simp; done) | (simp [*]; done) | omega | (simp; omega) | (rw [IntKind.wrap_i64]; omega) | (intro hx; omega) | rfl)
            simp only [Act.put, List.setIfInBounds_toArray, List.set_cons_zero, List.set_cons_succ]
            refine q_run (v := .bool true) (by rfl) ?_ ?_
            · (intro w1 hC; obtain ⟨⟨z0, z1, -, -, -⟩, ⟨x0, x1, x2, x3, x4⟩, -⟩ := hC; go_simp; first | done | (simp; done) | (simp [*]; done) | omega | (simp; omega) | (rw [IntKind.wrap_i64]; omega) | (intro hx; omega) | rfl)
            simp only [Act.put, List.setIfInBounds_toArray, List.set_cons_zero, List.set_cons_succ]
            refine q_run (v := .func (.func 32) #[] #[]) (by rfl) ?_ ?_
            · (intro w1 hC; obtain ⟨⟨z0, z1, -, -, -⟩, ⟨x0, x1, x2, x3, x4⟩, -⟩ := hC; go_simp; first | done | (simp; done) | (simp [*]; done) | omega | (simp; omega) | (rw [IntKind.wrap_i64]; omega) | (intro hx; omega) | rfl)
            simp only [Act.put, List.setIfInBounds_toArray, List.set_cons_zero, List.set_cons_succ]
            refine q_run (v := .slice (some ⟨b, off, none⟩) l.length c) (by rfl) ?_ ?_
            · (intro w1 hC; obtain ⟨⟨z0, z1, -, -, -⟩, ⟨x0, x1, x2, x3, x4⟩, -⟩ := hC; go_simp; first | done | (simp; done) | (simp [*]; done) | omega | (simp; omega) | (rw [IntKind.wrap_i64]; omega) | (intro hx; omega) | rfl)
            simp only [Act.put, List.setIfInBounds_toArray, List.set_cons_zero, List.set_cons_succ]
            refine q_run (v := .int .i64 (j : Int)) (by rfl) ?_ ?_
            · (intro w1 hC; obtain ⟨⟨z0, z1, -, -, -⟩, ⟨x0, x1, x2, x3, x4⟩, -⟩ := hC; go_simp; first | done | (simp; done) | (simp [*]; done) | omega | (simp; omega) | (rw [IntKind.wrap_i64]; omega) | (intro hx; omega) | rfl)
            simp only [Act.put, List.setIfInBounds_toArray, List.set_cons_zero, List.set_cons_succ]
            refine q_run (v := .pointer (some ⟨b, off + j * 5, none⟩)) (by rfl) ?_ ?_
            · (intro w1 hC; obtain ⟨⟨z0, z1, -, -, -⟩, ⟨x0, x1, x2, x3, x4⟩, -⟩ := hC; go_simp; first | done | (simp; done) | (simp [*]; done) | omega | (simp; omega) | (rw [IntKind.wrap_i64]; omega) | (intro hx; omega) | rfl)
            simp only [Act.put, List.setIfInBounds_toArray, List.set_cons_zero, List.set_cons_succ]
            refine q_run (v := .agg #[.int .u64 (hI x), .int .u64 (lI x), .int .u64 (hI n), .int .u64 (lI n), .int .i64 h]) (by rfl) ?_ ?_
            · (intro w1 hC; obtain ⟨⟨z0, z1, -, -, -⟩, ⟨x0, x1, x2, x3, x4⟩, -⟩ := hC; go_simp; first | done | (simp; done) | (simp [*]; done) | omega | (simp; omega) | (rw [IntKind.wrap_i64]; omega) | (intro hx; omega) | rfl)
            simp only [Act.put, List.setIfInBounds_toArray, List.set_cons_zero, List.set_cons_succ]
            refine q_run (v := .agg #[.int .u64 (hI y), .int .u64 (lI y)]) (by rfl) ?_ ?_
            · (intro w1 hC; obtain ⟨⟨z0, z1, -, -, -⟩, ⟨x0, x1, x2, x3, x4⟩, -⟩ := hC; go_simp; first | done | (simp; done) | (simp [*]; done) | omega | (simp; omega) | (rw [IntKind.wrap_i64]; omega) | (intro hx; omega) | rfl)
            simp only [Act.put, List.setIfInBounds_toArray, List.set_cons_zero, List.set_cons_succ]
            refine q_call (v := .int .i64 cz) (f := 32) (args := #[.agg #[.int .u64 (hI x), .int .u64 (lI x), .int .u64 (hI n), .int .u64 (lI n), .int .i64 h], .agg #[.int .u64 (hI y), .int .u64 (lI y)]]) (by rfl) ?_ ?_ ?_
            · (intro w1 hC; clear hC; go_simp)
            · exact fun w1 hC => (KC w1).mono fun e w' ⟨he, hb⟩ => ⟨he, hC.below hb⟩
            simp only [Act.put, List.setIfInBounds_toArray, List.set_cons_zero, List.set_cons_succ]
            refine q_run (v := .bool (cz == 0)) (by rfl) ?_ ?_
            · (intro w1 hC; obtain ⟨⟨z0, z1, -, -, -⟩, ⟨x0, x1, x2, x3, x4⟩, -⟩ := hC; go_simp; first | done | (simp; done) | (simp [*]; done) | omega | (simp; omega) | (rw [IntKind.wrap_i64]; omega) | (intro hx; omega) | rfl)
            simp only [Act.put, List.setIfInBounds_toArray, List.set_cons_zero, List.set_cons_succ]
            refine q_run (v := .bool (cz == 0)) (by rfl) ?_ ?_
            · (intro w1 hC; obtain ⟨⟨z0, z1, -, -, -⟩, ⟨x0, x1, x2, x3, x4⟩, -⟩ := hC; go_simp; first | done | (simp; done) | (simp [*]; done) | omega | (simp; omega) | (rw [IntKind.wrap_i64]; omega) | (intro hx; omega) | rfl)
            simp only [Act.put, List.setIfInBounds_toArray, List.set_cons_zero, List.set_cons_succ]
            refine q_run (v := .int .i64 (j : Int)) (by rfl) ?_ ?_
            · (intro w1 hC; obtain ⟨⟨z0, z1, -, -, -⟩, ⟨x0, x1, x2, x3, x4⟩, -⟩ := hC; go_simp; first | done | (simp; done) | (simp [*]; done) | omega | (simp; omega) | (rw [IntKind.wrap_i64]; omega) | (intro hx; omega) | rfl)
            simp only [Act.put, List.setIfInBounds_toArray, List.set_cons_zero, List.set_cons_succ]
            refine q_run (v := .bool (cz == 0)) (by rfl) ?_ ?_
            · (intro w1 hC; obtain ⟨⟨z0, z1, -, -, -⟩, ⟨x0, x1, x2, x3, x4⟩, -⟩ := hC; go_simp; first | done | (simp; done) | (simp [*]; done) | omega | (simp; omega) | (rw [IntKind.wrap_i64]; omega) | (intro hx; omega) | rfl)
            simp only [Act.put, List.setIfInBounds_toArray, List.set_cons_zero, List.set_cons_succ]
            refine wpQuiet_nil ?_
            simp only [putAll, Act.put, List.setIfInBounds_toArray, List.set_cons_zero, List.set_cons_succ]
          case fin =>
            intro W hC
            simp only [putAll, Act.put, List.setIfInBounds_toArray, List.set_cons_zero, List.set_cons_succ]
            dsimp only [List.drop]
            have HB := hidR hC.2.2
            clear hC HC KC
            go_wp2
            exact bodyPost_ret (v := .tuple #[.int .i64 (j : Int), .bool (cz == 0)]) (by simp [results, Tryd.results31, go_sem]) rfl ⟨⟨j, by omega, fun a ha => ⟨fun hh => HI.out.1 a ha hh, fun hh => Classical.byContradiction fun hn => absurd hh (Int.not_lt.mpr (HI.out.2 a ha (by omega)))⟩, by rw [HR.out]⟩, HB.out⟩
      · have hin' : ¬ (j : Int) < (l.length : Int) := by omega
        have HC := hidR HB.out.drew
        have HR : Hid ((match l[j]? with | some r => decide (toG y r = 0) | none => false) = false) := by
          show _ = _
          rw [List.getElem?_eq_none (by omega)]
        clear HA HB
        go_wp2_with fail
        refine qw_region (C := fun W => Below w.heap.size w W) (by kernel_rfl) (by kernel_rfl) HC.out ?_
        clear HC
        refine qw_run (v := .int .i64 (j : Int)) (by rfl) ?_ ?_
        · (intro w1 hC; obtain hD := hC; go_simp; first | done | (simp; done) | (simp [*]; done) | omega | (simp; omega) | (rw [IntKind.wrap_i64]; omega) | (intro hx; omega) | rfl)
        simp only [Act.put, List.setIfInBounds_toArray, List.set_cons_zero, List.set_cons_succ]
        refine qw_run (v := .int .i64 (j : Int)) (by rfl) ?_ ?_
        · (intro w1 hC; obtain hD := hC; go_simp; first | done | (simp; done) | (simp [*]; done) | omega | (simp; omega) | (rw [IntKind.wrap_i64]; omega) | (intro hx; omega) | rfl)
        simp only [Act.put, List.setIfInBounds_toArray, List.set_cons_zero, List.set_cons_succ]
        refine qw_run (v := .int .i64 (l.length : Int)) (by rfl) ?_ ?_
        · (intro w1 hC; obtain hD := hC; go_simp; first | done | (simp; done) | (simp [*]; done) | omega | (simp; omega) | (rw [IntKind.wrap_i64]; omega) | (intro hx; omega) | rfl)
        simp only [Act.put, List.setIfInBounds_toArray, List.set_cons_zero, List.set_cons_succ]
        refine qw_run (v := .bool false) (by rfl) ?_ ?_
        · (intro w1 hC; obtain hD := hC; go_simp; first | done | (simp; done) | (simp [*]; done) | omega | (simp; omega) | (rw [IntKind.wrap_i64]; omega) | (intro hx; omega) | rfl)
        simp only [Act.put, List.setIfInBounds_toArray, List.set_cons_zero, List.set_cons_succ]
        refine qw_run (v := .bool false) (by rfl) ?_ ?_
        · (intro w1 hC; obtain hD := hC; go_simp; first | done | (simp; done) | (simp [*]; done) | omega | (simp; omega) | (rw [IntKind.wrap_i64]; omega) | (intro hx; omega) | rfl)
        simp only [Act.put, List.setIfInBounds_toArray, List.set_cons_zero, List.set_cons_succ]
        refine qw_skip (by rfl) ?_
        simp only [Act.put, List.setIfInBounds_toArray, List.set_cons_zero, List.set_cons_succ]
        refine qw_skip (by rfl) ?_
        simp only [Act.put, List.setIfInBounds_toArray, List.set_cons_zero, List.set_cons_succ]
        refine qw_skip (by rfl) ?_
        simp only [Act.put, List.setIfInBounds_toArray, List.set_cons_zero, List.set_cons_succ]
        refine qw_skip (by rfl) ?_
        simp only [Act.put, List.setIfInBounds_toArray, List.set_cons_zero, List.set_cons_succ]
        refine qw_skip (by rfl) ?_
        simp only [Act.put, List.setIfInBounds_toArray, List.set_cons_zero, List.set_cons_succ]
        refine qw_skip (by rfl) ?_
        simp only [Act.put, List.setIfInBounds_toArray, List.set_cons_zero, List.set_cons_succ]
        refine qw_skip (by rfl) ?_
        simp only [Act.put, List.setIfInBounds_toArray, List.set_cons_zero, List.set_cons_succ]
        refine qw_skip (by rfl) ?_
        simp only [Act.put, List.setIfInBounds_toArray, List.set_cons_zero, List.set_cons_succ]
        refine qw_run (v := .bool false) (by rfl) ?_ ?_
        · (intro w1 hC; obtain hD := hC; go_simp; first | done | (simp; done) | (simp [*]; done) | omega | (simp; omega) | (rw [IntKind.wrap_i64]; omega) | (intro hx; omega) | rfl)
        simp only [Act.put, List.setIfInBounds_toArray, List.set_cons_zero, List.set_cons_succ]
        refine qw_run (v := .int .i64 (j : Int)) (by rfl) ?_ ?_
        · (intro w1 hC; obtain hD := hC; go_simp; first | done | (simp; done) | (simp [*]; done) | omega | (simp; omega) | (rw [IntKind.wrap_i64]; omega) | (intro hx; omega) | rfl)
        simp only [Act.put, List.setIfInBounds_toArray, List.set_cons_zero, List.set_cons_succ]
        refine qw_run (v := .bool false) (by rfl) ?_ ?_
        · (intro w1 hC; obtain hD := hC; go_simp; first | done | (simp; done) | (simp [*]; done) | omega | (simp; omega) | (rw [IntKind.wrap_i64]; omega) | (intro hx; omega) | rfl)
        simp only [Act.put, List.setIfInBounds_toArray, List.set_cons_zero, List.set_cons_succ]
        refine qw_nil ?_
        intro W hC
        have HB := hidR hC
        clear hC
        go_wp2
        exact bodyPost_ret (v := .tuple #[.int .i64 (j : Int), .bool false]) (by simp [results, Tryd.results31, go_sem]) rfl ⟨⟨j, by omega, fun a ha => ⟨fun hh => HI.out.1 a ha hh, fun hh => Classical.byContradiction fun hn => absurd hh (Int.not_lt.mpr (HI.out.2 a ha (by omega)))⟩, by rw [HR.out]⟩, HB.out⟩
end Go.Proofs.YtmkjlcfoedglmaaDoor
/-
  Plain facts for AlgebraSays: a table of segments is a right one, leads alike, has the segments again; where an address stands among segments.
-/
namespace Go.Proofs.YtmkjlcfoedglmaaDoor
set_option linter.unusedSimpArgs false
set_option linter.unusedVariables false

theorem rtsG_of (F : Int) : ∀ l : List Rte, (∀ r ∈ l, rteE F r = 0) → rtsG F l = 0
  | [], _ => rfl
  | a :: l, h => by
    rw [rtsG, if_pos (h a (by simp))]
    exact rtsG_of F l (fun r hr => h r (List.mem_cons_of_mem _ hr))
theorem ro_rte (F : Int) (r : Rte) (hf : fam F = true) (h : Ro F r) (hn : r.2 ≠ 0) : rteE F r = 0 := by
  obtain ⟨⟨h0, h1, h2⟩, h3, h4⟩ := h
  have hc : checkE F r.1.1 r.1.2 = 0 := by
    unfold checkE
    rw [if_pos hf, if_neg (by omega), if_neg (by omega), if_pos (by simpa using h2)]
  have hh : hopB r.2 = true := by
    unfold hopB
    simp only [Bool.and_eq_true, decide_eq_true_iff]
    omega
  unfold rteE
  rw [if_pos hc, if_pos hh]
theorem tabE_one {F : Int} {l : List Rte} (h : TabE F l 0) (z : Int) (hz : TabE F l z) : z = 0 := by
  by_cases h0 : rtsE F l = 0
  · rcases hz.2 h0 with ⟨_, q⟩ | ⟨q, _⟩
    · exact q
    · rcases h.2 h0 with ⟨p, _⟩ | ⟨_, p⟩
      · exact absurd p q
      · omega
  · exact absurd (h.1 h0).symm h0
/-- The table of right segments is a right one. -/
theorem covR_tab (F : Int) (hf : fam F = true) (S : List Sg) (h : sgsGo F none S = 0) (hn : (covR F S).length ≤ 1048576) : TabE F (covR F S) 0 := by
  obtain ⟨a1, a2, a3, a4⟩ := covR_table F hf S h
  have e : rtsE F (covR F S) = 0 := by
    unfold rtsE
    rw [if_pos hf, if_neg (by omega)]
    exact rtsG_of F _ (fun r hr => ro_rte F r hf (a1 r hr).1 (a1 r hr).2)
  exact ⟨fun q => absurd e q, fun _ => .inl ⟨fun a ha => List.pairwise_iff_getElem.mp a3 a (a + 1) (by omega) ha (by omega), rfl⟩⟩
/-- The ends of right segments, and how they go on. -/
theorem segs_next (F : Int) : ∀ (l : List Sg) (p : Option Sg), sgsGo F p l = 0 → ∀ j (h : j + 1 < l.length), nextB F l[j].1.2 = true ∧ nextV F l[j].1.2 = l[j + 1].1.1 ∧ ¬ l[j + 1].2 = l[j].2 ∧ rightE F l[j].1.2 = 0
  | [], _, _, j, h => by simp at h
  | s :: l, p, hg, j, h => by
    obtain ⟨s1, s2, s3, s4, s5⟩ := sgsGo_cons F p s l hg
    cases j with
    | zero =>
      cases l with
      | nil => simp at h
      | cons r l =>
        obtain ⟨r1, r2, r3, r4, r5⟩ := sgsGo_cons F (some s) r l s5
        refine ⟨r2, r3.symm, fun q => r4 ?_, (sgE_zero F s s1).2.1⟩
        show some s.2 = some r.2
        rw [show r.2 = s.2 from q]
    | succ j => exact segs_next F l (some s) s5 j (by simpa using h)
theorem segs_last (F : Int) (hf : fam F = true) : ∀ (l : List Sg) (p : Option Sg), sgsGo F p l = 0 → ∀ n (h : n < l.length), n + 1 = l.length → l[n].1.2 = maskW F
  | [], _, _, n, h, _ => by simp at h
  | s :: l, p, hg, n, h, hn => by
    obtain ⟨s1, s2, s3, s4, s5⟩ := sgsGo_cons F p s l hg
    cases l with
    | nil =>
      have : n = 0 := by simp at hn; exact hn
      subst this
      have hb : nextB F s.1.2 = false := by
        rw [sgsGo] at s5
        cases e : nextB F s.1.2 with
        | false => rfl
        | true => rw [if_pos (show moO F (some s) = true from e)] at s5; omega
      exact next_none F s.1.2 (sgE_zero F s s1).2.1 hb
    | cons r l =>
      cases n with
      | zero => simp at hn
      | succ n => exact segs_last F hf (r :: l) (some s) s5 n (by simpa using h) (by simpa using hn)
theorem segs_first (F : Int) (l : List Sg) (hg : sgsGo F none l = 0) : ∃ h : 0 < l.length, (l[0]'h).1.1 = 0#128 := by
  cases l with
  | nil => simp [sgsGo, moO] at hg
  | cons s l =>
    obtain ⟨s1, s2, s3, s4, s5⟩ := sgsGo_cons F none s l hg
    exact ⟨by simp, s3⟩
/-- Which segment has an address. -/
theorem segs_at (F : Int) (x : BitVec 128) (hx : rightE F x = 0) : ∀ (l : List Sg) (s : Sg), sgE F s = 0 → sgsGo F (some s) l = 0 → s.1.1.toNat ≤ x.toNat →
    ∃ k, ∃ hk : k < (s :: l).length, ((s :: l)[k]'hk).1.1.toNat ≤ x.toNat ∧ x.toNat ≤ ((s :: l)[k]'hk).1.2.toNat ∧ (∀ j (hj : j < (s :: l).length), j < k ↔ ((s :: l)[j]'hj).1.2.toNat < x.toNat)
  | [], s, h1, h2, h3 => by
    obtain ⟨s1, s2, _, _, s5⟩ := sgE_zero F s h1
    have hb : nextB F s.1.2 = false := by
      rw [sgsGo] at h2
      cases e : nextB F s.1.2 with
      | false => rfl
      | true => rw [if_pos (show moO F (some s) = true from e)] at h2; omega
    have m := right_max F x hx
    rw [← next_none F s.1.2 s2 hb] at m
    refine ⟨0, by simp, h3, m, fun j hj => ?_⟩
    have : j = 0 := by simpa using hj
    subst this
    simp only [List.getElem_cons_zero]
    omega
  | r :: l, s, h1, h2, h3 => by
    obtain ⟨s1, s2, _, _, s5⟩ := sgE_zero F s h1
    obtain ⟨r1, r2, r3, r4, r5⟩ := sgsGo_cons F (some s) r l h2
    obtain ⟨n1, _, _, _⟩ := next_nat F s.1.2 r2
    have e : r.1.1.toNat = s.1.2.toNat + 2 ^ (128 - F.toNat) := by rw [r3]; exact n1
    have pp := Nat.two_pow_pos (128 - F.toNat)
    by_cases g : x.toNat ≤ s.1.2.toNat
    · refine ⟨0, by simp, h3, g, fun j hj => ⟨fun q => by omega, fun q => ?_⟩⟩
      exfalso
      -- all later ones end behind
      have all : ∀ (l : List Sg) (s : Sg), sgE F s = 0 → sgsGo F (some s) l = 0 → ∀ t ∈ l, s.1.2.toNat ≤ t.1.2.toNat := by
        intro l
        induction l with
        | nil => intro s _ _ t ht; cases ht
        | cons r l ih =>
          intro s h1 h2 t ht
          obtain ⟨r1, r2, r3, r4, r5⟩ := sgsGo_cons F (some s) r l h2
          obtain ⟨n1, _, _, _⟩ := next_nat F s.1.2 r2
          have e : r.1.1.toNat = s.1.2.toNat + 2 ^ (128 - F.toNat) := by rw [r3]; exact n1
          have := (sgE_zero F r r1).2.2.2.2
          rcases List.mem_cons.mp ht with rfl | ht
          · omega
          · have := ih r r1 r5 t ht; omega
      rcases List.mem_cons.mp (List.getElem_mem hj) with q2 | q2
      · rw [q2] at q; omega
      · have := all (r :: l) s h1 h2 _ q2
        omega
    · obtain ⟨_, k2, _, _⟩ := next_le F s.1.2 x s2 hx (by omega)
      obtain ⟨k, hk, c1, c2, c3⟩ := segs_at F x hx l r r1 r5 (by rw [r3]; exact k2)
      refine ⟨k + 1, by simpa using hk, c1, c2, fun j hj => ?_⟩
      cases j with
      | zero => simp only [List.getElem_cons_zero]; omega
      | succ j =>
        have := c3 j (by simpa using hj)
        simp only [List.getElem_cons_succ]
        omega
end Go.Proofs.YtmkjlcfoedglmaaDoor
/-
  What the call of package algebra's At does, where a segment has the address.
-/
namespace Go.Proofs.YtmkjlcfoedglmaaDoor
open Go.RowKit
set_option linter.unusedSimpArgs false
set_option linter.unusedVariables false

set_option maxRecDepth 20000 in
set_option maxHeartbeats 8000000 in
theorem at6_in (y : BitVec 128) (v : Value) (l : List Sg) (k : Nat) (hk : k < l.length) (h1 : ∀ j (hj : j < l.length), j < k ↔ toG y l[j] < 0) (h2 : ¬ cmpZ y l[k].1.1 < 0) (w : World) (hv : RwG w v l) (hl : l.length ≤ 1000000000) :
    Calls Tryd.prog 12 #[v, .agg #[.int .u64 (hI y), .int .u64 (lI y)]] w fun e w' => e = .returned (.tuple #[.int .i64 l[k].2, .bool true]) ∧ Below w.heap.size w w' := by
  have b0 := bl1 w (.cells #[.int .u64 (hI y), .int .u64 (lI y)] 27)
  obtain ⟨p0, p1, -⟩ := at_new w w.heap.size y 27 rfl
  have HA := hidR (at_new w w.heap.size y 27 rfl)
  have KS : Calls Tryd.prog 31 #[v, .agg #[.int .u64 (hI y), .int .u64 (lI y)], .func (.func 32) #[] #[]] (w.alloc (.cells #[.int .u64 (hI y), .int .u64 (lI y)] 27)) fun e w' => (∃ ok, e = .returned (.tuple #[.int .i64 k, .bool ok])) ∧ Below (w.alloc (.cells #[.int .u64 (hI y), .int .u64 (lI y)] 27)).heap.size (w.alloc (.cells #[.int .u64 (hI y), .int .u64 (lI y)] 27)) w' := by
    refine (searchG_any y v l _ (hv.below b0) hl (fun a b hb hab q => (h1 a (by omega)).mp (by have := (h1 b hb).mpr q; omega))).mono ?_
    rintro e w1 ⟨⟨i, g1, g2, g3⟩, hb⟩
    have e : i = k := by
      rcases Nat.lt_trichotomy i k with q | q | q
      · have := (g2 i (by omega)).mpr ((h1 i (by omega)).mp q); omega
      · exact q
      · have := (h1 k hk).mpr ((g2 k hk).mp q); omega
    subst e
    exact ⟨⟨_, g3⟩, hb⟩
  obtain ⟨ao, c, rfl, hr⟩ := id hv
  rcases hr with e | ⟨b, off, rfl, hc⟩
  · rw [e] at hk; simp at hk
  · obtain ⟨x0, x1, x2, x3, x4⟩ := rwg_cells hc k hk
    have HC := hidR (And.intro x0 (And.intro x1 (And.intro x2 (And.intro x3 x4))))
    have KC := fun w => cmp_any y l[k].1.1 w
    have HB := hidR b0
    have hlt : (k : Int) < (l.length : Int) := by omega
    have hne : ¬ (k : Int) = (l.length : Int) := by omega
    have hne2 : ¬ k = l.length := by omega
    clear h1 hv hc x0 x1 x2 x3 x4 b0
    revert KC h2 HC
    generalize cmpZ y l[k].1.1 = cz
    generalize l[k].1.1 = x
    generalize l[k].1.2 = n
    generalize l[k].2 = h
    intro h2 HC KC
    go_enter Tryd.func12, Tryd.ntmps12
    go_wp2_with fail
    refine KS.mono ?_
    rintro e w1 ⟨⟨ok, rfl⟩, hb⟩
    have hC : CBg w b (off + k * 5) y x n h w1 := ⟨HA.out.below hb, ⟨keepc hb (keepc HB.out HC.out.1), keepc hb (keepc HB.out HC.out.2.1), keepc hb (keepc HB.out HC.out.2.2.1), keepc hb (keepc HB.out HC.out.2.2.2.1), keepc hb (keepc HB.out HC.out.2.2.2.2)⟩, keepb hb HB.out⟩
    have HD := hidR hC.drew
    clear hC hb KS HA HB HC p0 p1
    go_wp2_with fail
    refine qw_region (C := CBg w b (off + k * 5) y x n h) (by kernel_rfl) (by kernel_rfl) HD.out ?_
    clear HD
    refine qw_run (v := .int .i64 (k : Int)) (by rfl) ?_ ?_
    · (intro w1 hC; obtain ⟨⟨z0, z1, -, -, -⟩, ⟨x0, x1, x2, x3, x4⟩, -⟩ := hC; go_simp; first | done | (simp; done) | (simp [*]; done) | omega | (simp; omega) | (rw [IntKind.wrap_i64]; omega) | (intro hx; omega) | rfl)
    simp only [Act.put, List.setIfInBounds_toArray, List.set_cons_zero, List.set_cons_succ]
    refine qw_run (v := .slice (some ⟨b, off, none⟩) l.length c) (by rfl) ?_ ?_
    · (intro w1 hC; obtain ⟨⟨z0, z1, -, -, -⟩, ⟨x0, x1, x2, x3, x4⟩, -⟩ := hC; go_simp; first | done | (simp; done) | (simp [*]; done) | omega | (simp; omega) | (rw [IntKind.wrap_i64]; omega) | (intro hx; omega) | rfl)
    simp only [Act.put, List.setIfInBounds_toArray, List.set_cons_zero, List.set_cons_succ]
    refine qw_run (v := .int .i64 (l.length : Int)) (by rfl) ?_ ?_
    · (intro w1 hC; obtain ⟨⟨z0, z1, -, -, -⟩, ⟨x0, x1, x2, x3, x4⟩, -⟩ := hC; go_simp; first | done | (simp; done) | (simp [*]; done) | omega | (simp; omega) | (rw [IntKind.wrap_i64]; omega) | (intro hx; omega) | rfl)
    simp only [Act.put, List.setIfInBounds_toArray, List.set_cons_zero, List.set_cons_succ]
    refine qw_run (v := .bool false) (by rfl) ?_ ?_
    · (intro w1 hC; obtain ⟨⟨z0, z1, -, -, -⟩, ⟨x0, x1, x2, x3, x4⟩, -⟩ := hC; go_simp; first | done | (simp; done) | (simp [*]; done) | omega | (simp; omega) | (rw [IntKind.wrap_i64]; omega) | (intro hx; omega) | rfl)
    simp only [Act.put, List.setIfInBounds_toArray, List.set_cons_zero, List.set_cons_succ]
    refine qw_run (v := .bool false) (by rfl) ?_ ?_
    · (intro w1 hC; obtain ⟨⟨z0, z1, -, -, -⟩, ⟨x0, x1, x2, x3, x4⟩, -⟩ := hC; go_simp; first | done | (simp; done) | (simp [*]; done) | omega | (simp; omega) | (rw [IntKind.wrap_i64]; omega) | (intro hx; omega) | rfl)
    simp only [Act.put, List.setIfInBounds_toArray, List.set_cons_zero, List.set_cons_succ]
    refine qw_run (v := .agg #[.int .u64 (hI y), .int .u64 (lI y)]) (by rfl) ?_ ?_
    · (intro w1 hC; obtain ⟨⟨z0, z1, -, -, -⟩, ⟨x0, x1, x2, x3, x4⟩, -⟩ := hC; go_simp; first | done | (simp; done) | (simp [*]; done) | omega | (simp; omega) | (rw [IntKind.wrap_i64]; omega) | (intro hx; omega) | rfl)
    simp only [Act.put, List.setIfInBounds_toArray, List.set_cons_zero, List.set_cons_succ]
    refine qw_run (v := .slice (some ⟨b, off, none⟩) l.length c) (by rfl) ?_ ?_
    · (intro w1 hC; obtain ⟨⟨z0, z1, -, -, -⟩, ⟨x0, x1, x2, x3, x4⟩, -⟩ := hC; go_simp; first | done | (simp; done) | (simp [*]; done) | omega | (simp; omega) | (rw [IntKind.wrap_i64]; omega) | (intro hx; omega) | rfl)
    simp only [Act.put, List.setIfInBounds_toArray, List.set_cons_zero, List.set_cons_succ]
    refine qw_run (v := .int .i64 (k : Int)) (by rfl) ?_ ?_
    · (intro w1 hC; obtain ⟨⟨z0, z1, -, -, -⟩, ⟨x0, x1, x2, x3, x4⟩, -⟩ := hC; go_simp; first | done | (simp; done) | (simp [*]; done) | omega | (simp; omega) | (rw [IntKind.wrap_i64]; omega) | (intro hx; omega) | rfl)
    simp only [Act.put, List.setIfInBounds_toArray, List.set_cons_zero, List.set_cons_succ]
    refine qw_run (v := .pointer (some ⟨b, off + k * 5, none⟩)) (by rfl) ?_ ?_
    · (intro w1 hC; obtain ⟨⟨z0, z1, -, -, -⟩, ⟨x0, x1, x2, x3, x4⟩, -⟩ := hC; go_simp; first | done | (simp; done) | (simp [*]; done) | omega | (simp; omega) | (rw [IntKind.wrap_i64]; omega) | (intro hx; omega) | rfl)
    simp only [Act.put, List.setIfInBounds_toArray, List.set_cons_zero, List.set_cons_succ]
    refine qw_run (v := .pointer (some ⟨b, off + k * 5, none⟩)) (by rfl) ?_ ?_
    · (intro w1 hC; obtain ⟨⟨z0, z1, -, -, -⟩, ⟨x0, x1, x2, x3, x4⟩, -⟩ := hC; go_simp; first | done | (simp; done) | (simp [*]; done) | omega | (simp; omega) | (rw [IntKind.wrap_i64]; omega) | (intro hx; omega) | rfl)
    simp only [Act.put, List.setIfInBounds_toArray, List.set_cons_zero, List.set_cons_succ]
    refine qw_run (v := .agg #[.int .u64 (hI x), .int .u64 (lI x)]) (by rfl) ?_ ?_
    · (intro w1 hC; obtain ⟨⟨z0, z1, -, -, -⟩, ⟨x0, x1, x2, x3, x4⟩, -⟩ := hC; go_simp; first | done | (simp; done) | (simp [*]; done) | omega | (simp; omega) | (rw [IntKind.wrap_i64]; omega) | (intro hx; omega) | rfl)
    simp only [Act.put, List.setIfInBounds_toArray, List.set_cons_zero, List.set_cons_succ]
    refine qw_call (v := .int .i64 cz) (f := 33) (args := #[.agg #[.int .u64 (hI y), .int .u64 (lI y)], .agg #[.int .u64 (hI x), .int .u64 (lI x)]]) (by rfl) ?_ ?_ ?_
    · (intro w1 hC; clear hC; go_simp)
    · exact fun w1 hC => (KC w1).mono fun e w' ⟨he, hb⟩ => ⟨he, hC.below hb⟩
    simp only [Act.put, List.setIfInBounds_toArray, List.set_cons_zero, List.set_cons_succ]
    refine qw_run (v := .bool false) (by rfl) ?_ ?_
    · (intro w1 hC; obtain ⟨⟨z0, z1, -, -, -⟩, ⟨x0, x1, x2, x3, x4⟩, -⟩ := hC; go_simp; first | done | (simp; done) | (simp [*]; done) | omega | (simp; omega) | (rw [IntKind.wrap_i64]; omega) | (intro hx; omega) | rfl)
    simp only [Act.put, List.setIfInBounds_toArray, List.set_cons_zero, List.set_cons_succ]
    refine qw_run (v := .bool false) (by rfl) ?_ ?_
    · (intro w1 hC; obtain ⟨⟨z0, z1, -, -, -⟩, ⟨x0, x1, x2, x3, x4⟩, -⟩ := hC; go_simp; first | done | (simp; done) | (simp [*]; done) | omega | (simp; omega) | (rw [IntKind.wrap_i64]; omega) | (intro hx; omega) | rfl)
    simp only [Act.put, List.setIfInBounds_toArray, List.set_cons_zero, List.set_cons_succ]
    refine qw_nil ?_
    intro W hC
    obtain ⟨-, ⟨x0, x1, x2, x3, x4⟩, -⟩ := id hC
    have HB := hidR hC.2.2
    clear hC KC
    go_wp2
    exact bodyPost_ret (v := .tuple #[.int .i64 h, .bool true]) (by simp [results, Tryd.results12, go_sem]) rfl ⟨rfl, HB.out⟩
end Go.Proofs.YtmkjlcfoedglmaaDoor
