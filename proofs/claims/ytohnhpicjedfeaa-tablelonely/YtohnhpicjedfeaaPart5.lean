/-
  Part 5 of the proof: 6 texts, one behind the other.
-/
import Derived.Test.YtohnhpicjedfeaaPart3
import Derived.Test.YtohnhpicjedfeaaPart4
import Derived.Test.YtohnhpicjedfeaaPart1
import Derived.Laws.AppendOwnNone
import Derived.Test.YtohnhpicjedfeaaPart2
namespace Go.Proofs.Ytohnhpicjedfeaa
open Go.RowKit
set_option linter.unusedSimpArgs false
set_option linter.unusedVariables false

theorem cmpAt_any (x : BitVec 128) (n h : Int) (y : BitVec 128) (m : Int) (w : World) :
    Calls Try.prog 45 #[.agg #[.int .u64 (hI x), .int .u64 (lI x), .int .i64 n, .int .i64 h], .agg #[.int .u64 (hI y), .int .u64 (lI y), .int .i64 m]] w fun e w' => e = .returned (.int .i64 (pcmpZ x n y m)) ∧ Below w.heap.size w w' := by
  have KC := fun w => pcmp_any x n y m w
  generalize pcmpZ x n y m = z at *
  have A1 := atr_new w w.heap.size x n h 40 rfl
  have b1 := bl1 w (.cells #[.int .u64 (hI x), .int .u64 (lI x), .int .i64 n, .int .i64 h] 40)
  have b2 := bl1 (w.alloc (.cells #[.int .u64 (hI x), .int .u64 (lI x), .int .i64 n, .int .i64 h] 40)) (.cells #[.int .u64 (hI y), .int .u64 (lI y), .int .i64 m] 38)
  obtain ⟨p0, p1, p2, -⟩ := A1.below b2
  obtain ⟨q0, q1, q2, -⟩ := atp_new (w.alloc (.cells #[.int .u64 (hI x), .int .u64 (lI x), .int .i64 n, .int .i64 h] 40)) (w.heap.size + 1) y m 38 (by simp)
  have HB := hidR (keepb b2 b1)
  clear A1 b1 b2
  go_enter Try.func45, Try.ntmps45
  go_wp2_with fail
  refine (KC _).mono ?_
  rintro e w1 ⟨rfl, hb⟩
  have kB := keepb hb HB.out
  clear KC hb HB p0 p1 p2 q0 q1 q2
  go_wp2
  go_ret
  exact ⟨rfl, kB⟩
def CBs (w : World) (b o : Nat) (y : BitVec 128) (m : Int) (x : BitVec 128) (n h : Int) (W : World) : Prop := AtP W w.heap.size y m ∧ (W.cell? ⟨b, o, none⟩ = some (.int .u64 (hI x)) ∧ W.cell? ⟨b, o + 1, none⟩ = some (.int .u64 (lI x)) ∧ W.cell? ⟨b, o + 2, none⟩ = some (.int .i64 n) ∧ W.cell? ⟨b, o + 3, none⟩ = some (.int .i64 h)) ∧ Below w.heap.size w W
theorem CBs.below {w W W' : World} {b o : Nat} {y : BitVec 128} {m : Int} {x : BitVec 128} {n h : Int} (g : CBs w b o y m x n h W) (hb : Below W.heap.size W W') : CBs w b o y m x n h W' := ⟨g.1.below hb, ⟨keepc hb g.2.1.1, keepc hb g.2.1.2.1, keepc hb g.2.1.2.2.1, keepc hb g.2.1.2.2.2⟩, keepb hb g.2.2⟩
theorem CBs.drew {w W : World} {b o : Nat} {y : BitVec 128} {m : Int} {x : BitVec 128} {n h : Int} (g : CBs w b o y m x n h W) : CBs w b o y m x n h W.drew := ⟨g.1, g.2.1, g.2.2.drew⟩
def toP (y : BitVec 128) (m : Int) (r : Rte) : Int := pcmpZ r.1.1 r.1.2 y m
set_option maxRecDepth 20000 in
set_option maxHeartbeats 8000000 in
theorem search_any (y : BitVec 128) (m : Int) (v : Value) (l : List Rte) (w : World) (hv : RwR w v l) (hl : l.length ≤ 1000000000) (hmono : ∀ (a b : Nat) (hb : b < l.length) (hab : a ≤ b), toP y m l[b] < 0 → toP y m (l[a]'(by omega)) < 0) :
    Calls Try.prog 44 #[v, .agg #[.int .u64 (hI y), .int .u64 (lI y), .int .i64 m], .func (.func 45) #[] #[]] w fun e w' => (∃ i : Nat, i ≤ l.length ∧ (∀ (j : Nat) (hj : j < l.length), j < i ↔ toP y m l[j] < 0) ∧ e = .returned (.tuple #[.int .i64 i, .bool (match l[i]? with | some r => decide (toP y m r = 0) | none => false)])) ∧ Below w.heap.size w w' := by
  obtain ⟨ao, c, rfl, hv⟩ := hv
  have HV := hidR hv
  have HM := hidR hmono
  have A0 := hidR (atp_new w w.heap.size y m 38 rfl)
  have b0 := bl1 w (.cells #[.int .u64 (hI y), .int .u64 (lI y), .int .i64 m] 38)
  clear hv hmono
  go_enter Try.func44, Try.ntmps44
  go_wp2_with fail
  go_loopw [9, 10] (fun p q wr => ∃ i j : Nat, p = .int .i64 i ∧ q = .int .i64 j ∧ i ≤ j ∧ j ≤ l.length ∧ Hid ((∀ (a : Nat) (ha : a < l.length), a < i → toP y m l[a] < 0) ∧ (∀ (a : Nat) (ha : a < l.length), j ≤ a → 0 ≤ toP y m l[a])) ∧ Hid (AtP wr w.heap.size y m) ∧ Hid (Below w.heap.size w wr)) (fun p q _ => (intOf q).toNat - (intOf p).toNat)
  case atStart => exact ⟨0, l.length, rfl, rfl, by omega, by omega, ⟨fun a ha h => by omega, fun a ha h => by omega⟩, A0, b0⟩
  case round =>
    clear A0 b0
    obtain ⟨i, j, rfl, rfl, hij, hjl, HI, HA, HB⟩ := hrel
    by_cases hlt : (i : Int) < (j : Int)
    · rcases HV.out with e | ⟨b, off, rfl, hc⟩
      · rw [e] at hjl; simp at hjl; omega
      · obtain ⟨q, hq⟩ : ∃ q, q = (i + j) / 2 := ⟨_, rfl⟩
        have hq1 : i ≤ q := by omega
        have hq2 : q < j := by omega
        have hw1 : IntKind.i64.wrap ((i : Int) + (j : Int)) = (i : Int) + (j : Int) := by rw [IntKind.wrap_i64]; omega
        have hw2 : IntKind.u64.wrap ((i : Int) + (j : Int)) = (i : Int) + (j : Int) := by rw [IntKind.wrap_u64]; omega
        have hqi : ((i : Int) + (j : Int)) / 2 = (q : Int) := by omega
        have hql : q < l.length := by omega
        obtain ⟨x0, x1, x2, x3⟩ := rwr_cells hc q hql
        have HC := hidR (CBs.drew ⟨HA.out, ⟨keepc HB.out x0, keepc HB.out x1, keepc HB.out x2, keepc HB.out x3⟩, HB.out⟩ : CBs w b (off + q * 4) y m l[q].1.1 l[q].1.2 l[q].2 wr.drew)
        have KC := fun w => cmpAt_any l[q].1.1 l[q].1.2 l[q].2 y m w
        have HZ : Hid (toP y m l[q] = pcmpZ l[q].1.1 l[q].1.2 y m) := rfl
        clear x0 x1 x2 x3 hc HA HB
        revert KC HZ HC
        generalize pcmpZ l[q].1.1 l[q].1.2 y m = cz
        generalize l[q].1.1 = x
        generalize l[q].1.2 = n
        generalize l[q].2 = h
        intro HC KC HZ
        clear hq
        go_wp2_with fail
        refine qp_region2 8 (qpOk 8 8 (by decide) (fun N => by kernel_rfl) (by kernel_rfl) (by kernel_rfl) (by kernel_rfl) (by kernel_rfl)) (C := CBs w b (off + q * 4) y m x n h) [some 24, some 25, some 26, some 27, some 28, some 29, some 30, some 31] [.func (.func 45) #[] #[], .slice (some ⟨b, off, none⟩) l.length c, .int .i64 (q : Int), .pointer (some ⟨b, off + q * 4, none⟩), .agg #[.int .u64 (hI x), .int .u64 (lI x), .int .i64 n, .int .i64 h], .agg #[.int .u64 (hI y), .int .u64 (lI y), .int .i64 m], .int .i64 cz, .bool (decide (cz < 0))] (by kernel_rfl) HC.out ?walk ?fin
        case walk =>
          dsimp only [List.take]
          refine q_run (v := .func (.func 45) #[] #[]) (by rfl) ?_ ?_
          · (intro w1 hC; obtain ⟨⟨z0, z1, z2, -, -, -⟩, ⟨x0, x1, x2, x3⟩, -⟩ := hC; go_simp; first | done | (simp; done) | (simp [*]; done) | omega | (simp; omega) | (rw [IntKind.wrap_i64]; omega) | (intro hx; omega) | rfl)
          simp only [Act.put, List.setIfInBounds_toArray, List.set_cons_zero, List.set_cons_succ]
          refine q_run (v := .slice (some ⟨b, off, none⟩) l.length c) (by rfl) ?_ ?_
          · (intro w1 hC; obtain ⟨⟨z0, z1, z2, -, -, -⟩, ⟨x0, x1, x2, x3⟩, -⟩ := hC; go_simp; first | done | (simp; done) | (simp [*]; done) | omega | (simp; omega) | (rw [IntKind.wrap_i64]; omega) | (intro hx; omega) | rfl)
          simp only [Act.put, List.setIfInBounds_toArray, List.set_cons_zero, List.set_cons_succ]
          refine q_run (v := .int .i64 (q : Int)) (by rfl) ?_ ?_
          · (intro w1 hC; obtain ⟨⟨z0, z1, z2, -, -, -⟩, ⟨x0, x1, x2, x3⟩, -⟩ := hC; go_simp; first | done | (simp; done) | (simp [*]; done) | omega | (simp; omega) | (rw [IntKind.wrap_i64]; omega) | (intro hx; omega) | rfl)
          simp only [Act.put, List.setIfInBounds_toArray, List.set_cons_zero, List.set_cons_succ]
          refine q_run (v := .pointer (some ⟨b, off + q * 4, none⟩)) (by rfl) ?_ ?_
          · (intro w1 hC; obtain ⟨⟨z0, z1, z2, -, -, -⟩, ⟨x0, x1, x2, x3⟩, -⟩ := hC; go_simp; first | done | (simp; done) | (simp [*]; done) | omega | (simp; omega) | (rw [IntKind.wrap_i64]; omega) | (intro hx; omega) | rfl)
          simp only [Act.put, List.setIfInBounds_toArray, List.set_cons_zero, List.set_cons_succ]
          refine q_run (v := .agg #[.int .u64 (hI x), .int .u64 (lI x), .int .i64 n, .int .i64 h]) (by rfl) ?_ ?_
          · (intro w1 hC; obtain ⟨⟨z0, z1, z2, -, -, -⟩, ⟨x0, x1, x2, x3⟩, -⟩ := hC; go_simp; first | done | (simp; done) | (simp [*]; done) | omega | (simp; omega) | (rw [IntKind.wrap_i64]; omega) | (intro hx; omega) | rfl)
          simp only [Act.put, List.setIfInBounds_toArray, List.set_cons_zero, List.set_cons_succ]
          refine q_run (v := .agg #[.int .u64 (hI y), .int .u64 (lI y), .int .i64 m]) (by rfl) ?_ ?_
          · (intro w1 hC; obtain ⟨⟨z0, z1, z2, -, -, -⟩, ⟨x0, x1, x2, x3⟩, -⟩ := hC; go_simp; first | done | (simp; done) | (simp [*]; done) | omega | (simp; omega) | (rw [IntKind.wrap_i64]; omega) | (intro hx; omega) | rfl)
          simp only [Act.put, List.setIfInBounds_toArray, List.set_cons_zero, List.set_cons_succ]
          refine q_call (v := .int .i64 cz) (f := 45) (args := #[.agg #[.int .u64 (hI x), .int .u64 (lI x), .int .i64 n, .int .i64 h], .agg #[.int .u64 (hI y), .int .u64 (lI y), .int .i64 m]]) (by rfl) ?_ ?_ ?_
          · (intro w1 hC; clear hC; go_simp)
          · exact fun w1 hC => (KC w1).mono fun e w' ⟨he, hb⟩ => ⟨he, hC.below hb⟩
          simp only [Act.put, List.setIfInBounds_toArray, List.set_cons_zero, List.set_cons_succ]
          refine q_run (v := .bool (decide (cz < 0))) (by rfl) ?_ ?_
          · (intro w1 hC; obtain ⟨⟨z0, z1, z2, -, -, -⟩, ⟨x0, x1, x2, x3⟩, -⟩ := hC; go_simp; first | done | (simp; done) | (simp [*]; done) | omega | (simp; omega) | (rw [IntKind.wrap_i64]; omega) | (intro hx; omega) | rfl)
          simp only [Act.put, List.setIfInBounds_toArray, List.set_cons_zero, List.set_cons_succ]
          refine wpQuiet_nil ?_
          simp only [putAll, Act.put, List.setIfInBounds_toArray, List.set_cons_zero, List.set_cons_succ]
        case fin =>
          intro W hC
          simp only [putAll, Act.put, List.setIfInBounds_toArray, List.set_cons_zero, List.set_cons_succ]
          dsimp only [List.drop]
          have HA := hidR hC.1
          have HB := hidR hC.2.2
          clear hC HC KC hqi hw1 hw2
          by_cases hz : cz < 0
          · have hw3 : IntKind.i64.wrap ((q : Int) + 1) = (q : Int) + 1 := by rw [IntKind.wrap_i64]; omega
            go_wp2
            go_roundw
            case rel =>
              refine ⟨q + 1, j, by go_num, rfl, by omega, by omega, ⟨fun a ha hh => ?_, HI.out.2⟩, HA, HB⟩
              exact HM.out a q hql (by omega) (by rw [HZ.out]; exact hz)
            case measure => simp [intOf]; omega
          · go_wp2
            go_roundw
            case rel =>
              refine ⟨i, q, rfl, rfl, by omega, by omega, ⟨HI.out.1, fun a ha hh => Int.not_lt.mp fun hn => ?_⟩, HA, HB⟩
              have := HM.out q a ha hh hn
              rw [HZ.out] at this
              omega
            case measure => simp [intOf]; omega
    · have hd : ¬ i < j := by omega
      have hji : j = i := by omega
      subst hji
      by_cases hin : j < l.length
      · rcases HV.out with e | ⟨b, off, rfl, hc⟩
        · rw [e] at hin; simp at hin
        · obtain ⟨x0, x1, x2, x3⟩ := rwr_cells hc j hin
          have HC := hidR (CBs.drew ⟨HA.out, ⟨keepc HB.out x0, keepc HB.out x1, keepc HB.out x2, keepc HB.out x3⟩, HB.out⟩ : CBs w b (off + j * 4) y m l[j].1.1 l[j].1.2 l[j].2 wr.drew)
          have KC := fun w => cmpAt_any l[j].1.1 l[j].1.2 l[j].2 y m w
          have HR : Hid ((match l[j]? with | some r => decide (toP y m r = 0) | none => false) = (pcmpZ l[j].1.1 l[j].1.2 y m == 0)) := by
            show _ = _
            rw [List.getElem?_eq_getElem hin]
            rfl
          clear x0 x1 x2 x3 hc HA HB
          revert KC HR HC
          generalize pcmpZ l[j].1.1 l[j].1.2 y m = cz
          generalize l[j].1.1 = x
          generalize l[j].1.2 = n
          generalize l[j].2 = h
          intro HC KC HR
          have hin' : (j : Int) < (l.length : Int) := by omega
          go_wp2_with fail
          refine qp_region2 16 (qpOk 16 16 (by decide) (fun N => by kernel_rfl) (by kernel_rfl) (by kernel_rfl) (by kernel_rfl) (by kernel_rfl)) (C := CBs w b (off + j * 4) y m x n h) [some 35, some 36, some 37, some 38, some 39, some 40, some 41, some 42, some 43, some 44, some 45, some 46, some 47, some 48, some 6, some 7] [.int .i64 (j : Int), .int .i64 (j : Int), .int .i64 (l.length : Int), .bool true, .bool true, .func (.func 45) #[] #[], .slice (some ⟨b, off, none⟩) l.length c, .int .i64 (j : Int), .pointer (some ⟨b, off + j * 4, none⟩), .agg #[.int .u64 (hI x), .int .u64 (lI x), .int .i64 n, .int .i64 h], .agg #[.int .u64 (hI y), .int .u64 (lI y), .int .i64 m], .int .i64 cz, .bool (cz == 0), .bool (cz == 0), .int .i64 (j : Int), .bool (cz == 0)] (by kernel_rfl) HC.out ?walk ?fin
          case walk =>
            dsimp only [List.take]
            refine q_run (v := .int .i64 (j : Int)) (by rfl) ?_ ?_
            · (intro w1 hC; obtain ⟨⟨z0, z1, z2, -, -, -⟩, ⟨x0, x1, x2, x3⟩, -⟩ := hC; go_simp; first | done | (simp; done) | (simp [*]; done) | omega | (simp; omega) | (rw [IntKind.wrap_i64]; omega) | (intro hx; omega) | rfl)
            simp only [Act.put, List.setIfInBounds_toArray, List.set_cons_zero, List.set_cons_succ]
            refine q_run (v := .int .i64 (j : Int)) (by rfl) ?_ ?_
            · (intro w1 hC; obtain ⟨⟨z0, z1, z2, -, -, -⟩, ⟨x0, x1, x2, x3⟩, -⟩ := hC; go_simp; first | done | (simp; done) | (simp [*]; done) | omega | (simp; omega) | (rw [IntKind.wrap_i64]; omega) | (intro hx; omega) | rfl)
            simp only [Act.put, List.setIfInBounds_toArray, List.set_cons_zero, List.set_cons_succ]
            refine q_run (v := .int .i64 (l.length : Int)) (by rfl) ?_ ?_
            · (intro w1 hC; obtain ⟨⟨z0, z1, z2, -, -, -⟩, ⟨x0, x1, x2, x3⟩, -⟩ := hC; go_simp; first | done | (simp; done) | (simp [*]; done) | omega | (simp; omega) | (rw [IntKind.wrap_i64]; omega) | (intro hx; omega) | rfl)
            simp only [Act.put, List.setIfInBounds_toArray, List.set_cons_zero, List.set_cons_succ]
            refine q_run (v := .bool true) (by rfl) ?_ ?_
            · (intro w1 hC; obtain ⟨⟨z0, z1, z2, -, -, -⟩, ⟨x0, x1, x2, x3⟩, -⟩ := hC; go_simp; first | done | (simp; done) | (simp [*]; done) | omega | (simp; omega) | (rw [IntKind.wrap_i64]; omega) | (intro hx; omega) | rfl)
            simp only [Act.put, List.setIfInBounds_toArray, List.set_cons_zero, List.set_cons_succ]
            refine q_run (v := .bool true) (by rfl) ?_ ?_
            · (intro w1 hC; obtain ⟨⟨z0, z1, z2, -, -, -⟩, ⟨x0, x1, x2, x3⟩, -⟩ := hC; go_simp; first | done | (simp; done) | (simp [*]; done) | omega | (simp; omega) | (rw [IntKind.wrap_i64]; omega) | (intro hx; omega) | rfl)
            simp only [Act.put, List.setIfInBounds_toArray, List.set_cons_zero, List.set_cons_succ]
            refine q_run (v := .func (.func 45) #[] #[]) (by rfl) ?_ ?_
            · (intro w1 hC; obtain ⟨⟨z0, z1, z2, -, -, -⟩, ⟨x0, x1, x2, x3⟩, -⟩ := hC; go_simp; first | done | (simp; done) | (simp [*]; done) | omega | (simp; omega) | (rw [IntKind.wrap_i64]; omega) | (intro hx; omega) | rfl)
            simp only [Act.put, List.setIfInBounds_toArray, List.set_cons_zero, List.set_cons_succ]
            refine q_run (v := .slice (some ⟨b, off, none⟩) l.length c) (by rfl) ?_ ?_
            · (intro w1 hC; obtain ⟨⟨z0, z1, z2, -, -, -⟩, ⟨x0, x1, x2, x3⟩, -⟩ := hC; go_simp; first | done | (simp; done) | (simp [*]; done) | omega | (simp; omega) | (rw [IntKind.wrap_i64]; omega) | (intro hx; omega) | rfl)
            simp only [Act.put, List.setIfInBounds_toArray, List.set_cons_zero, List.set_cons_succ]
            refine q_run (v := .int .i64 (j : Int)) (by rfl) ?_ ?_
            · (intro w1 hC; obtain ⟨⟨z0, z1, z2, -, -, -⟩, ⟨x0, x1, x2, x3⟩, -⟩ := hC; go_simp; first | done | (simp; done) | (simp [*]; done) | omega | (simp; omega) | (rw [IntKind.wrap_i64]; omega) | (intro hx; omega) | rfl)
            simp only [Act.put, List.setIfInBounds_toArray, List.set_cons_zero, List.set_cons_succ]
            refine q_run (v := .pointer (some ⟨b, off + j * 4, none⟩)) (by rfl) ?_ ?_
            · (intro w1 hC; obtain ⟨⟨z0, z1, z2, -, -, -⟩, ⟨x0, x1, x2, x3⟩, -⟩ := hC; go_simp; first | done | (simp; done) | (simp [*]; done) | omega | (simp; omega) | (rw [IntKind.wrap_i64]; omega) | (intro hx; omega) | rfl)
            simp only [Act.put, List.setIfInBounds_toArray, List.set_cons_zero, List.set_cons_succ]
            refine q_run (v := .agg #[.int .u64 (hI x), .int .u64 (lI x), .int .i64 n, .int .i64 h]) (by rfl) ?_ ?_
            · (intro w1 hC; obtain ⟨⟨z0, z1, z2, -, -, -⟩, ⟨x0, x1, x2, x3⟩, -⟩ := hC; go_simp; first | done | (simp; done) | (simp [*]; done) | omega | (simp; omega) | (rw [IntKind.wrap_i64]; omega) | (intro hx; omega) | rfl)
            simp only [Act.put, List.setIfInBounds_toArray, List.set_cons_zero, List.set_cons_succ]
            refine q_run (v := .agg #[.int .u64 (hI y), .int .u64 (lI y), .int .i64 m]) (by rfl) ?_ ?_
            · (intro w1 hC; obtain ⟨⟨z0, z1, z2, -, -, -⟩, ⟨x0, x1, x2, x3⟩, -⟩ := hC; go_simp; first | done | (simp; done) | (simp [*]; done) | omega | (simp; omega) | (rw [IntKind.wrap_i64]; omega) | (intro hx; omega) | rfl)
            simp only [Act.put, List.setIfInBounds_toArray, List.set_cons_zero, List.set_cons_succ]
            refine q_call (v := .int .i64 cz) (f := 45) (args := #[.agg #[.int .u64 (hI x), .int .u64 (lI x), .int .i64 n, .int .i64 h], .agg #[.int .u64 (hI y), .int .u64 (lI y), .int .i64 m]]) (by rfl) ?_ ?_ ?_
            · (intro w1 hC; clear hC; go_simp)
            · exact fun w1 hC => (KC w1).mono fun e w' ⟨he, hb⟩ => ⟨he, hC.below hb⟩
            simp only [Act.put, List.setIfInBounds_toArray, List.set_cons_zero, List.set_cons_succ]
            refine q_run (v := .bool (cz == 0)) (by rfl) ?_ ?_
            · (intro w1 hC; obtain ⟨⟨z0, z1, z2, -, -, -⟩, ⟨x0, x1, x2, x3⟩, -⟩ := hC; go_simp; first | done | (simp; done) | (simp [*]; done) | omega | (simp; omega) | (rw [IntKind.wrap_i64]; omega) | (intro hx; omega) | rfl)
            simp only [Act.put, List.setIfInBounds_toArray, List.set_cons_zero, List.set_cons_succ]
            refine q_run (v := .bool (cz == 0)) (by rfl) ?_ ?_
            · (intro w1 hC; obtain ⟨⟨z0, z1, z2, -, -, -⟩, ⟨x0, x1, x2, x3⟩, -⟩ := hC; go_simp; first | done | (simp; done) | (simp [*]; done) | omega | (simp; omega) | (rw [IntKind.wrap_i64]; omega) | (intro hx; omega) | rfl)
            simp only [Act.put, List.setIfInBounds_toArray, List.set_cons_zero, List.set_cons_succ]
            refine q_run (v := .int .i64 (j : Int)) (by rfl) ?_ ?_
            · (intro w1 hC; obtain ⟨⟨z0, z1, z2, -, -, -⟩, ⟨x0, x1, x2, x3⟩, -⟩ := hC; go_simp; first | done | (simp; done) | (simp [*]; done) | omega | (simp; omega) | (rw [IntKind.wrap_i64]; omega) | (intro hx; omega) | rfl)
            simp only [Act.put, List.setIfInBounds_toArray, List.set_cons_zero, List.set_cons_succ]
            refine q_run (v := .bool (cz == 0)) (by rfl) ?_ ?_
            · (intro w1 hC; obtain ⟨⟨z0, z1, z2, -, -, -⟩, ⟨x0, x1, x2, x3⟩, -⟩ := hC; go_simp; first | done | (simp; done) | (simp [*]; done) | omega | (simp; omega) | (rw [IntKind.wrap_i64]; omega) | (intro hx; omega) | rfl)
            simp only [Act.put, List.setIfInBounds_toArray, List.set_cons_zero, List.set_cons_succ]
            refine wpQuiet_nil ?_
            simp only [putAll, Act.put, List.setIfInBounds_toArray, List.set_cons_zero, List.set_cons_succ]
          case fin =>
            intro W hC
            simp only [putAll, Act.put, List.setIfInBounds_toArray, List.set_cons_zero, List.set_cons_succ]
            dsimp only [List.drop]
            have HB := hidR hC.2.2
            clear hC HC KC
            go_wp2
            exact bodyPost_ret (v := .tuple #[.int .i64 (j : Int), .bool (cz == 0)]) (by simp [results, Try.results44, go_sem]) rfl ⟨⟨j, by omega, fun a ha => ⟨fun hh => HI.out.1 a ha hh, fun hh => Classical.byContradiction fun hn => absurd hh (Int.not_lt.mpr (HI.out.2 a ha (by omega)))⟩, by rw [HR.out]⟩, HB.out⟩
      · have hin' : ¬ (j : Int) < (l.length : Int) := by omega
        have HC := hidR HB.out.drew
        have HR : Hid ((match l[j]? with | some r => decide (toP y m r = 0) | none => false) = false) := by
          show _ = _
          rw [List.getElem?_eq_none (by omega)]
        clear HA HB
        go_wp2_with fail
        refine qw_region (C := fun W => Below w.heap.size w W) (by kernel_rfl) (by kernel_rfl) HC.out ?_
        clear HC
        refine qw_run (v := .int .i64 (j : Int)) (by rfl) ?_ ?_
        · (intro w1 hC; obtain hD := hC; go_simp; first | done | (simp; done) | (simp [*]; done) | omega | (simp; omega) | (rw [IntKind.wrap_i64]; omega) | (intro hx; omega) | rfl)
        simp only [Act.put, List.setIfInBounds_toArray, List.set_cons_zero, List.set_cons_succ]
        refine qw_run (v := .int .i64 (j : Int)) (by rfl) ?_ ?_
        · (intro w1 hC; obtain hD := hC; go_simp; first | done | (simp; done) | (simp [*]; done) | omega | (simp; omega) | (rw [IntKind.wrap_i64]; omega) | (intro hx; omega) | rfl)
        simp only [Act.put, List.setIfInBounds_toArray, List.set_cons_zero, List.set_cons_succ]
        refine qw_run (v := .int .i64 (l.length : Int)) (by rfl) ?_ ?_
        · (intro w1 hC; obtain hD := hC; go_simp; first | done | (simp; done) | (simp [*]; done) | omega | (simp; omega) | (rw [IntKind.wrap_i64]; omega) | (intro hx; omega) | rfl)
        simp only [Act.put, List.setIfInBounds_toArray, List.set_cons_zero, List.set_cons_succ]
        refine qw_run (v := .bool false) (by rfl) ?_ ?_
        · (intro w1 hC; obtain hD := hC; go_simp; first | done | (simp; done) | (simp [*]; done) | omega | (simp; omega) | (rw [IntKind.wrap_i64]; omega) | (intro hx; omega) | rfl)
        simp only [Act.put, List.setIfInBounds_toArray, List.set_cons_zero, List.set_cons_succ]
        refine qw_run (v := .bool false) (by rfl) ?_ ?_
        · (intro w1 hC; obtain hD := hC; go_simp; first | done | (simp; done) | (simp [*]; done) | omega | (simp; omega) | (rw [IntKind.wrap_i64]; omega) | (intro hx; omega) | rfl)
        simp only [Act.put, List.setIfInBounds_toArray, List.set_cons_zero, List.set_cons_succ]
        refine qw_skip (by rfl) ?_
        simp only [Act.put, List.setIfInBounds_toArray, List.set_cons_zero, List.set_cons_succ]
        refine qw_skip (by rfl) ?_
        simp only [Act.put, List.setIfInBounds_toArray, List.set_cons_zero, List.set_cons_succ]
        refine qw_skip (by rfl) ?_
        simp only [Act.put, List.setIfInBounds_toArray, List.set_cons_zero, List.set_cons_succ]
        refine qw_skip (by rfl) ?_
        simp only [Act.put, List.setIfInBounds_toArray, List.set_cons_zero, List.set_cons_succ]
        refine qw_skip (by rfl) ?_
        simp only [Act.put, List.setIfInBounds_toArray, List.set_cons_zero, List.set_cons_succ]
        refine qw_skip (by rfl) ?_
        simp only [Act.put, List.setIfInBounds_toArray, List.set_cons_zero, List.set_cons_succ]
        refine qw_skip (by rfl) ?_
        simp only [Act.put, List.setIfInBounds_toArray, List.set_cons_zero, List.set_cons_succ]
        refine qw_skip (by rfl) ?_
        simp only [Act.put, List.setIfInBounds_toArray, List.set_cons_zero, List.set_cons_succ]
        refine qw_run (v := .bool false) (by rfl) ?_ ?_
        · (intro w1 hC; obtain hD := hC; go_simp; first | done | (simp; done) | (simp [*]; done) | omega | (simp; omega) | (rw [IntKind.wrap_i64]; omega) | (intro hx; omega) | rfl)
        simp only [Act.put, List.setIfInBounds_toArray, List.set_cons_zero, List.set_cons_succ]
        refine qw_run (v := .int .i64 (j : Int)) (by rfl) ?_ ?_
        · (intro w1 hC; obtain hD := hC; go_simp; first | done | (simp; done) | (simp [*]; done) | omega | (simp; omega) | (rw [IntKind.wrap_i64]; omega) | (intro hx; omega) | rfl)
        simp only [Act.put, List.setIfInBounds_toArray, List.set_cons_zero, List.set_cons_succ]
        refine qw_run (v := .bool false) (by rfl) ?_ ?_
        · (intro w1 hC; obtain hD := hC; go_simp; first | done | (simp; done) | (simp [*]; done) | omega | (simp; omega) | (rw [IntKind.wrap_i64]; omega) | (intro hx; omega) | rfl)
        simp only [Act.put, List.setIfInBounds_toArray, List.set_cons_zero, List.set_cons_succ]
        refine qw_nil ?_
        intro W hC
        have HB := hidR hC
        clear hC
        go_wp2
        exact bodyPost_ret (v := .tuple #[.int .i64 (j : Int), .bool false]) (by simp [results, Try.results44, go_sem]) rfl ⟨⟨j, by omega, fun a ha => ⟨fun hh => HI.out.1 a ha hh, fun hh => Classical.byContradiction fun hn => absurd hh (Int.not_lt.mpr (HI.out.2 a ha (by omega)))⟩, by rw [HR.out]⟩, HB.out⟩
end Go.Proofs.Ytohnhpicjedfeaa
namespace Go.Proofs.Ytohnhpicjedfeaa
open Go.RowKit
set_option linter.unusedSimpArgs false
set_option linter.unusedVariables false

def Mono (y : BitVec 128) (m : Int) (l : List Rte) : Prop := ∀ (a b : Nat) (hb : b < l.length) (hab : a ≤ b), toP y m l[b] < 0 → toP y m (l[a]'(by omega)) < 0
def Place (y : BitVec 128) (m : Int) (l : List Rte) (i : Nat) (ok : Bool) : Prop := i ≤ l.length ∧ (∀ (j : Nat) (hj : j < l.length), j < i ↔ toP y m l[j] < 0) ∧ ok = (match l[i]? with | some r => decide (toP y m r = 0) | none => false)
theorem Place.one {y : BitVec 128} {m : Int} {l : List Rte} {i j : Nat} {a b : Bool} (h : Place y m l i a) (g : Place y m l j b) : i = j ∧ a = b := by
  have e : i = j := by
    rcases Nat.lt_trichotomy i j with q | q | q
    · have h1 := (g.2.1 i (by have := g.1; omega)).1 q
      have h2 := (h.2.1 i (by have := g.1; omega)).2 h1
      omega
    · exact q
    · have h1 := (h.2.1 j (by have := h.1; omega)).1 q
      have h2 := (g.2.1 j (by have := h.1; omega)).2 h1
      omega
  subst e
  exact ⟨rfl, by rw [h.2.2, g.2.2]⟩
theorem place_any (y : BitVec 128) (m : Int) (v : Value) (l : List Rte) (w : World) (hv : RwR w v l) (hl : l.length ≤ 1000000000) (hm : Mono y m l) :
    Calls Try.prog 32 #[v, .agg #[.int .u64 (hI y), .int .u64 (lI y), .int .i64 m]] w fun e w' => (∃ (i : Nat) (ok : Bool), Place y m l i ok ∧ e = .returned (.tuple #[.int .i64 i, .bool ok])) ∧ Below w.heap.size w w' := by
  have b0 := bl1 w (.cells #[.int .u64 (hI y), .int .u64 (lI y), .int .i64 m] 38)
  obtain ⟨p0, p1, p2, -⟩ := atp_new w w.heap.size y m 38 rfl
  have KS : Calls Try.prog 44 #[v, .agg #[.int .u64 (hI y), .int .u64 (lI y), .int .i64 m], .func (.func 45) #[] #[]] (w.alloc (.cells #[.int .u64 (hI y), .int .u64 (lI y), .int .i64 m] 38)) fun e w' => (∃ (i : Nat) (ok : Bool), Place y m l i ok ∧ e = .returned (.tuple #[.int .i64 i, .bool ok])) ∧ Below (w.alloc (.cells #[.int .u64 (hI y), .int .u64 (lI y), .int .i64 m] 38)).heap.size (w.alloc (.cells #[.int .u64 (hI y), .int .u64 (lI y), .int .i64 m] 38)) w' := by
    refine (search_any y m v l _ (hv.below b0) hl hm).mono ?_
    rintro e w1 ⟨⟨i, h1, h2, h3⟩, hb⟩
    exact ⟨⟨i, _, ⟨h1, h2, rfl⟩, h3⟩, hb⟩
  have HB := hidR b0
  clear b0 hv hm
  go_enter Try.func32, Try.ntmps32
  go_wp2_with fail
  refine KS.mono ?_
  rintro e w1 ⟨⟨i, ok, hP, rfl⟩, hb⟩
  have HP := hidR hP
  have kB := keepb hb HB.out
  clear KS hb HB p0 p1 p2 hP
  go_wp2
  exact bodyPost_ret (v := .tuple #[.int .i64 (i : Int), .bool ok]) (by simp [results, Try.results32, go_sem]) rfl ⟨⟨i, ok, HP.out, rfl⟩, kB⟩
end Go.Proofs.Ytohnhpicjedfeaa
namespace Go.Proofs.Ytohnhpicjedfeaa
open Go.RowKit
set_option linter.unusedSimpArgs false
set_option linter.unusedVariables false

def AtT (w : World) (B : Nat) (F : Int) (v : Value) : Prop := w.cell? ⟨B, 0, none⟩ = some (.int .i64 F) ∧ w.cell? ⟨B, 1, none⟩ = some v
theorem AtT.below {w w' : World} {B : Nat} {F : Int} {v : Value} (g : AtT w B F v) (hb : Below w.heap.size w w') : AtT w' B F v := ⟨keepc hb g.1, keepc hb g.2⟩
theorem att_new (w : World) (B : Nat) (F : Int) (v : Value) (T : TypeId) (e : B = w.heap.size) : AtT (w.alloc (.cells #[.int .i64 F, v] T)) B F v := by
  subst e
  refine ⟨?_, ?_⟩ <;> simp [go_sem]
set_option maxHeartbeats 4000000 in
theorem find_any (F : Int) (y : BitVec 128) (m : Int) (v : Value) (l : List Rte) (w : World) (hv : RwR w v l) (hl : l.length ≤ 1000000000) (hm : Mono y m l) :
    Calls Try.prog 17 #[.agg #[.int .i64 F, v], .agg #[.int .u64 (hI y), .int .u64 (lI y), .int .i64 m]] w fun e w' => (∃ (i : Nat) (ok : Bool) (h : Int), Place y m l i ok ∧ (ok = true → ∃ hi : i < l.length, h = (l[i]).2) ∧ (ok = false → h = 0) ∧ e = .returned (.tuple #[.int .i64 h, .bool ok])) ∧ Below w.heap.size w w' := by
  obtain ⟨ao, c, rfl, hv⟩ := hv
  have b1 := bl1 w (.cells #[.int .i64 F, .slice ao l.length c] 25)
  have b2 := bl1 (w.alloc (.cells #[.int .i64 F, .slice ao l.length c] 25)) (.cells #[.int .u64 (hI y), .int .u64 (lI y), .int .i64 m] 38)
  have HT := hidR ((att_new w w.heap.size F (.slice ao l.length c) 25 rfl).below b2)
  obtain ⟨t0, t1⟩ := HT.out
  obtain ⟨p0, p1, p2, -⟩ := atp_new (w.alloc (.cells #[.int .i64 F, .slice ao l.length c] 25)) (w.heap.size + 1) y m 38 (by simp)
  have hR : RwR w (.slice ao l.length c) l := ⟨ao, c, rfl, hv⟩
  have KP := place_any y m _ l _ ((hR.below b1).below b2) hl hm
  have HR := hidR ((hR.below b1).below b2)
  have HB := hidR (keepb b2 b1)
  clear b1 b2 hR hv hm
  go_enter Try.func17, Try.ntmps17
  go_wp2_with fail
  refine KP.mono ?_
  rintro e w1 ⟨⟨i, ok, hP, rfl⟩, hb⟩
  have HP := hidR hP
  have kB := keepb hb HB.out
  have HR1 := hidR (HR.out.below hb)
  obtain ⟨t0, t1⟩ := HT.out.below hb
  clear KP hb HB HT HR p0 p1 p2 hP
  cases ok
  · go_wp2
    exact bodyPost_ret (v := .tuple #[.int .i64 0, .bool false]) (by simp [results, Try.results17, go_sem]) rfl ⟨⟨i, false, 0, HP.out, fun h => (by cases h), fun _ => rfl, rfl⟩, kB⟩
  · have hi : i < l.length := by
      have := HP.out.2.2
      cases q : l[i]? with
      | none => rw [q] at this; cases this
      | some r => exact (List.getElem?_eq_some_iff.1 q).1
    obtain ⟨ao', c', e, hv⟩ := HR1.out
    injection e with e1 e2 e3
    subst e1
    clear e2 e3 HR1
    rcases hv with e | ⟨b, off, rfl, hc⟩
    · rw [e] at hi; simp at hi
    · obtain ⟨x0, x1, x2, x3⟩ := rwr_cells hc i hi
      clear hc
      have hi' : (i : Int) < (l.length : Int) := by omega
      go_wp2
      exact bodyPost_ret (v := .tuple #[.int .i64 l[i].2, .bool true]) (by simp [results, Try.results17, go_sem]) rfl ⟨⟨i, true, l[i].2, HP.out, fun _ => ⟨hi, rfl⟩, fun h => (by cases h), rfl⟩, kB⟩
end Go.Proofs.Ytohnhpicjedfeaa
namespace Go.Proofs.Ytohnhpicjedfeaa
open Go.RowKit
set_option linter.unusedSimpArgs false
set_option linter.unusedVariables false

def Row (w : World) (size : Nat) (v : Value) (n : Nat) (xs : List Value) : Prop :=
  xs.length = n * size ∧ ∃ ao c, v = .slice ao n c ∧ n ≤ c ∧ ((ao = none ∧ c = 0 ∧ n = 0) ∨ ∃ b off, ao = some ⟨b, off, none⟩ ∧ ∀ j u, xs[j]? = some u → w.cell? ⟨b, off + j, none⟩ = some u)
theorem addA (g o j : Nat) : (⟨g, o, none⟩ : Addr).add j = ⟨g, o + j, none⟩ := by unfold Addr.add; split <;> simp_all
theorem Row.form {w : World} {size n : Nat} {v : Value} {xs : List Value} (h : Row w size v n xs) : ∃ ao c, v = .slice ao n c ∧ n ≤ c := by
  obtain ⟨-, ao, c, e, hc, -⟩ := h
  exact ⟨ao, c, e, hc⟩
theorem own_row {w : World} {base e size n : Nat} {v : Value} {xs : List Value} (h : w.ownsRow base e size v n xs) : Row w size v n xs := by
  refine ⟨h.1, ?_⟩
  rcases h.2 with ⟨e0, e1⟩ | ⟨g, cap, cur, e0, hb, hg, hnc, hm, hs, ht⟩
  · subst e1
    exact ⟨none, 0, e0, Nat.le_refl _, .inl ⟨rfl, rfl, rfl⟩⟩
  · refine ⟨some ⟨g, 0, none⟩, cap, e0, hnc, .inr ⟨g, 0, rfl, ?_⟩⟩
    intro j u hj
    have f := h.cells (g := g) (by rw [e0]; rfl) j u hj
    rw [addA, Nat.zero_add] at f
    rw [Nat.zero_add]
    exact f
theorem run_slice_to {P : Program} {w : World} {t e : TypeId} {i : TypeInfo} (ht : P.underlying t = some (.slice e)) (hi : P.info? e = some i) (ao : Option Addr) (n c k : Nat) (hk : k ≤ c) :
    Sem.run P (Instr.sliceAt t (.slice ao n c) none (some (.int .i64 k)) none) w = .ok (.slice ao k c) w := by
  simp [Instr.sliceAt, Instr.slice, Instr.sliceBounds, Instr.sliceBound, run_underlying ht, sizeOf, typeInfo, hi, hk, go_sem]
theorem own_form {w : World} {base e size n : Nat} {v : Value} {xs : List Value} (h : w.ownsRow base e size v n xs) : ∃ ao c, v = .slice ao n c := by
  rcases h.2 with ⟨e, h⟩ | ⟨g, cap, cur, e, _⟩
  · exact ⟨none, 0, by rw [h]; exact e⟩
  · exact ⟨_, _, e⟩
theorem wpList_append_row {P : Program} {w : World} {ops : Array Oper} {rest : List Oper} {o : Oper} {a : Act} {Q : Exit → Act → World → Prop} (hgd : o.guard = none) (s x : Operand) (t : TypeId)
    (ho : o.op = .call { callee := .builtin .append, args := #[s, x], argTypes := #[t, t] })
    (base : Nat) (e : TypeId) (i : TypeInfo) (z : Value) (size bytes : Nat) (ht : P.underlying t = some (.slice e)) (hi : P.info? e = some i) (hz : i.zero = some z)
    (hsize : i.size = size) (hby : i.bytes = bytes) (hzs : z.cells.size = size) (hsz : 0 < size)
    (v : Value) (n : Nat) (xs : List Value) (hs : a.eval s = v) (hown : w.ownsRow base e size v n xs)
    (vx : Value) (m : Nat) (news : List Value) (hx : a.eval x = vx) (hsrc : Row w size vx m news) (h1 : ∀ y ∈ news, y.oneCell' = true)
    (h63 : n + m ≤ maxLen) (hbytes : (n + m) * bytes ≤ 140737488355328) (hbase : base ≤ w.heap.size)
    (h : ∀ ao cap w', w'.ownsRow base e size (.slice ao (n + m) cap) (n + m) (xs ++ news) → w.grownBy w' v.ownBlock → wpList P ops Q rest (a.put o.dst (.slice ao (n + m) cap)) w') : wpList P ops Q (o :: rest) a w := by
  obtain ⟨hl, xo, c, rfl, hcc, hsrc⟩ := hsrc
  rcases hsrc with ⟨rfl, rfl, rfl⟩ | ⟨b, off, rfl, hc⟩
  · have : news = [] := List.eq_nil_of_length_eq_zero (by omega)
    subst this
    refine wpList_append_own_none hgd s x t ho base e i size ht hi v n xs hs hown hx ?_
    obtain ⟨ao, cp, hv⟩ := own_form hown
    have := h ao cp w (by rw [List.append_nil, Nat.add_zero, ← hv]; exact hown) ⟨rfl, rfl, rfl, Nat.le_refl _, fun _ _ _ => rfl⟩
    rw [Nat.add_zero, ← hv] at this
    exact this
  · refine wpList_append_own w hgd s x t ho base e i z size bytes ht hi hz hsize hby hzs hsz v n xs hs hown ⟨b, off, none⟩ m c news hx hl (fun j u hj => by rw [addA]; exact hc j u hj) h1 h63 hbytes hbase ?_
    intro v' w' h2 h3 _
    obtain ⟨ao, cp, hv⟩ := own_form h2
    rw [hv]
    rw [hv] at h2
    exact h ao cp w' h2 h3
theorem Row.below {w w' : World} {size n : Nat} {v : Value} {xs : List Value} (h : Row w size v n xs) (hb : Below w.heap.size w w') : Row w' size v n xs := by
  obtain ⟨hl, ao, c, e, hc, h⟩ := h
  refine ⟨hl, ao, c, e, hc, ?_⟩
  rcases h with h | ⟨b, off, e, h⟩
  · exact .inl h
  · exact .inr ⟨b, off, e, fun j u hj => keepc hb (h j u hj)⟩
end Go.Proofs.Ytohnhpicjedfeaa
namespace Go.Proofs.Ytohnhpicjedfeaa
open Go.RowKit
set_option linter.unusedSimpArgs false
set_option linter.unusedVariables false

theorem Try.infoR : (Try.prog.info? 40).map (fun i => (i.zero, i.size, i.bytes)) = some (some (.agg #[.int .u64 0, .int .u64 0, .int .i64 0, .int .i64 0]), 4, 32) := by kernel_rfl
theorem rowR_len (l : List Rte) : (rowR l).length = l.length * 4 := by
  induction l with
  | nil => rfl
  | cons r l ih => simp [rowR, ih]; omega
theorem rowR_take : ∀ (l : List Rte) (k : Nat), (rowR l).take (k * 4) = rowR (l.take k)
  | [], k => by simp [rowR]
  | r :: l, 0 => by simp [rowR]
  | r :: l, k + 1 => by
    rw [show (k + 1) * 4 = k * 4 + 1 + 1 + 1 + 1 by omega]
    simp only [rowR, List.take_succ_cons, rowR_take l k]
theorem row_rwr {W : World} {v : Value} {l : List Rte} (h : Row W 4 v l.length (rowR l)) : RwR W v l := by
  obtain ⟨-, ao, c, e, -, h⟩ := h
  refine ⟨ao, c, e, ?_⟩
  rcases h with ⟨-, -, h⟩ | h
  · exact .inl (List.length_eq_zero_iff.mp h)
  · exact .inr h
def UpTo (y : BitVec 128) (m : Int) (l : List Rte) (k : Nat) : Prop := k ≤ l.length ∧ ∃ i ok, Place y m l i ok ∧ k = if ok = true then i + 1 else i
theorem stopHereU {P : Program} {w : World} {ops : Array Oper} {rest : List Oper} {a : Act} {Q : Exit → Act → World → Prop} {o : Oper} (h : Hid (wpList P ops Q (o :: rest) a w)) : wpList P ops Q (o :: rest) a w := h.out
end Go.Proofs.Ytohnhpicjedfeaa
