/-
  Part 8 of the proof: 7 texts, one behind the other.
-/
import Derived.Test.YtpiicdpipjjenaaGreatDoorPart7
import Derived.Test.YtpiicdpipjjenaaGreatDoorPart5
import Derived.Test.YtpiicdpipjjenaaGreatDoorPart6
namespace Go.Proofs.YtpiicdpipjjenaaGreatDoor
open Go.RowKit
set_option linter.unusedSimpArgs false
set_option linter.unusedVariables false

theorem cmpAt_any (x : BitVec 128) (n h : Int) (y : BitVec 128) (m : Int) (w : World) :
    Calls Tryz.prog 118 #[.agg #[.int .u64 (hI x), .int .u64 (lI x), .int .i64 n, .int .i64 h], .agg #[.int .u64 (hI y), .int .u64 (lI y), .int .i64 m]] w fun e w' => e = .returned (.int .i64 (pcmpZ x n y m)) ∧ Below w.heap.size w w' := by
  have KC := fun w => pcmp_any x n y m w
  generalize pcmpZ x n y m = z at *
  have A1 := atr_new w w.heap.size x n h 47 rfl
  have b1 := bl1 w (.cells #[.int .u64 (hI x), .int .u64 (lI x), .int .i64 n, .int .i64 h] 47)
  have b2 := bl1 (w.alloc (.cells #[.int .u64 (hI x), .int .u64 (lI x), .int .i64 n, .int .i64 h] 47)) (.cells #[.int .u64 (hI y), .int .u64 (lI y), .int .i64 m] 45)
  obtain ⟨p0, p1, p2, -⟩ := A1.below b2
  obtain ⟨q0, q1, q2, -⟩ := atp_new (w.alloc (.cells #[.int .u64 (hI x), .int .u64 (lI x), .int .i64 n, .int .i64 h] 47)) (w.heap.size + 1) y m 45 (by simp)
  have HB := hidR (keepb b2 b1)
  clear A1 b1 b2
  go_enter Tryz.func118, Tryz.ntmps118
  go_wp2_with fail
  refine (KC _).mono ?_
  rintro e w1 ⟨rfl, hb⟩
  have kB := keepb hb HB.out
  clear KC hb HB p0 p1 p2 q0 q1 q2
  go_wp2
  go_ret
  exact ⟨rfl, kB⟩
def CBs (w : World) (b o : Nat) (y : BitVec 128) (m : Int) (x : BitVec 128) (n h : Int) (W : World) : Prop := AtP W w.heap.size y m ∧ (W.cell? ⟨b, o, none⟩ = some (.int .u64 (hI x)) ∧ W.cell? ⟨b, o + 1, none⟩ = some (.int .u64 (lI x)) ∧ W.cell? ⟨b, o + 2, none⟩ = some (.int .i64 n) ∧ W.cell? ⟨b, o + 3, none⟩ = some (.int .i64 h)) ∧ Below w.heap.size w W
theorem CBs.below {w W W' : World} {b o : Nat} {y : BitVec 128} {m : Int} {x : BitVec 128} {n h : Int} (g : CBs w b o y m x n h W) (hb : Below W.heap.size W W') : CBs w b o y m x n h W' := ⟨g.1.below hb, ⟨keepc hb g.2.1.1, keepc hb g.2.1.2.1, keepc hb g.2.1.2.2.1, keepc hb g.2.1.2.2.2⟩, keepb hb g.2.2⟩
theorem CBs.drew {w W : World} {b o : Nat} {y : BitVec 128} {m : Int} {x : BitVec 128} {n h : Int} (g : CBs w b o y m x n h W) : CBs w b o y m x n h W.drew := ⟨g.1, g.2.1, g.2.2.drew⟩
def toP (y : BitVec 128) (m : Int) (r : Rte) : Int := pcmpZ r.1.1 r.1.2 y m
set_option maxRecDepth 20000 in
set_option maxHeartbeats 8000000 in
theorem search_any (y : BitVec 128) (m : Int) (v : Value) (l : List Rte) (w : World) (hv : RwR w v l) (hl : l.length ≤ 1000000000) (hmono : ∀ (a b : Nat) (hb : b < l.length) (hab : a ≤ b), toP y m l[b] < 0 → toP y m (l[a]'(by omega)) < 0) :
    Calls Tryz.prog 117 #[v, .agg #[.int .u64 (hI y), .int .u64 (lI y), .int .i64 m], .func (.func 118) #[] #[]] w fun e w' => (∃ i : Nat, i ≤ l.length ∧ (∀ (j : Nat) (hj : j < l.length), j < i ↔ toP y m l[j] < 0) ∧ e = .returned (.tuple #[.int .i64 i, .bool (match l[i]? with | some r => decide (toP y m r = 0) | none => false)])) ∧ Below w.heap.size w w' := by
  obtain ⟨ao, c, rfl, hv⟩ := hv
  have HV := hidR hv
  have HM := hidR hmono
  have A0 := hidR (atp_new w w.heap.size y m 45 rfl)
  have b0 := bl1 w (.cells #[.int .u64 (hI y), .int .u64 (lI y), .int .i64 m] 45)
  clear hv hmono
  go_enter Tryz.func117, Tryz.ntmps117
  go_wp2_with fail
  go_loopw [9, 10] (fun p q wr => ∃ i j : Nat, p = .int .i64 i ∧ q = .int .i64 j ∧ i ≤ j ∧ j ≤ l.length ∧ Hid ((∀ (a : Nat) (ha : a < l.length), a < i → toP y m l[a] < 0) ∧ (∀ (a : Nat) (ha : a < l.length), j ≤ a → 0 ≤ toP y m l[a])) ∧ Hid (AtP wr w.heap.size y m) ∧ Hid (Below w.heap.size w wr)) (fun p q _ => (intOf q).toNat - (intOf p).toNat)
  case atStart => exact ⟨0, l.length, rfl, rfl, by omega, by omega, ⟨fun a ha h => by omega, fun a ha h => by omega⟩, A0, b0⟩
  case round =>
    clear A0 b0
    obtain ⟨i, j, rfl, rfl, hij, hjl, HI, HA, HB⟩ := hrel
    by_cases hlt : (i : Int) < (j : Int)
    · rcases HV.out with e | ⟨b, off, rfl, hc⟩
      · rw [e] at hjl; simp at hjl; omega
      · obtain ⟨q, hq⟩ : ∃ q, q = (i + j) / 2 := ⟨_, rfl⟩
        have hq1 : i ≤ q := by omega
        have hq2 : q < j := by omega
        have hw1 : IntKind.i64.wrap ((i : Int) + (j : Int)) = (i : Int) + (j : Int) := by rw [IntKind.wrap_i64]; omega
        have hw2 : IntKind.u64.wrap ((i : Int) + (j : Int)) = (i : Int) + (j : Int) := by rw [IntKind.wrap_u64]; omega
        have hqi : ((i : Int) + (j : Int)) / 2 = (q : Int) := by omega
        have hql : q < l.length := by omega
        obtain ⟨x0, x1, x2, x3⟩ := rwr_cells hc q hql
        have HC := hidR (CBs.drew ⟨HA.out, ⟨keepc HB.out x0, keepc HB.out x1, keepc HB.out x2, keepc HB.out x3⟩, HB.out⟩ : CBs w b (off + q * 4) y m l[q].1.1 l[q].1.2 l[q].2 wr.drew)
        have KC := fun w => cmpAt_any l[q].1.1 l[q].1.2 l[q].2 y m w
        have HZ : Hid (toP y m l[q] = pcmpZ l[q].1.1 l[q].1.2 y m) := rfl
        clear x0 x1 x2 x3 hc HA HB
        revert KC HZ HC
        generalize pcmpZ l[q].1.1 l[q].1.2 y m = cz
        generalize l[q].1.1 = x
        generalize l[q].1.2 = n
        generalize l[q].2 = h
        intro HC KC HZ
        clear hq
        go_wp2_with fail
        refine qp_region2 8 (qpOk 8 8 (by decide) (fun N => by kernel_rfl) (by kernel_rfl) (by kernel_rfl) (by kernel_rfl) (by kernel_rfl)) (C := CBs w b (off + q * 4) y m x n h) [some 24, some 25, some 26, some 27, some 28, some 29, some 30, some 31] [.func (.func 118) #[] #[], .slice (some ⟨b, off, none⟩) l.length c, .int .i64 (q : Int), .pointer (some ⟨b, off + q * 4, none⟩), .agg #[.int .u64 (hI x), .int .u64 (lI x), .int .i64 n, .int .i64 h], .agg #[.int .u64 (hI y), .int .u64 (lI y), .int .i64 m], .int .i64 cz, .bool (decide (cz < 0))] (by kernel_rfl) HC.out ?walk ?fin
        case walk =>
          dsimp only [List.take]
          refine q_run (v := .func (.func 118) #[] #[]) (by rfl) ?_ ?_
          · (intro w1 hC; obtain ⟨⟨z0, z1, z2, -, -, -⟩, ⟨x0, x1, x2, x3⟩, -⟩ := hC; go_simp; first | done | (simp; done) | (simp [*]; done) | omega | (simp; omega) | (rw [IntKind.wrap_i64]; omega) | (intro hx; omega) | rfl)
          simp only [Act.put, List.setIfInBounds_toArray, List.set_cons_zero, List.set_cons_succ]
          refine q_run (v := .slice (some ⟨b, off, none⟩) l.length c) (by rfl) ?_ ?_
          · (intro w1 hC; obtain ⟨⟨z0, z1, z2, -, -, -⟩, ⟨x0, x1, x2, x3⟩, -⟩ := hC; go_simp; first | done | (simp; done) | (simp [*]; done) | omega | (simp; omega) | (rw [IntKind.wrap_i64]; omega) | (intro hx; omega) | rfl)
          simp only [Act.put, List.setIfInBounds_toArray, List.set_cons_zero, List.set_cons_succ]
          refine q_run (v := .int .i64 (q : Int)) (by rfl) ?_ ?_
          · (intro w1 hC; obtain ⟨⟨z0, z1, z2, -, -, -⟩, ⟨x0, x1, x2, x3⟩, -⟩ := hC; go_simp; first | done | (simp; done) | (simp [*]; done) | omega | (simp; omega) | (rw [IntKind.wrap_i64]; omega) | (intro hx; omega) | rfl)
          simp only [Act.put, List.setIfInBounds_toArray, List.set_cons_zero, List.set_cons_succ]
          refine q_run (v := .pointer (some ⟨b, off + q * 4, none⟩)) (by rfl) ?_ ?_
          · (intro w1 hC; obtain ⟨⟨z0, z1, z2, -, -, -⟩, ⟨x0, x1, x2, x3⟩, -⟩ := hC; go_simp; first | done | (simp; done) | (simp [*]; done) | omega | (simp; omega) | (rw [IntKind.wrap_i64]; omega) | (intro hx; omega) | rfl)
          simp only [Act.put, List.setIfInBounds_toArray, List.set_cons_zero, List.set_cons_succ]
          refine q_run (v := .agg #[.int .u64 (hI x), .int .u64 (lI x), .int .i64 n, .int .i64 h]) (by rfl) ?_ ?_
          · (intro w1 hC; obtain ⟨⟨z0, z1, z2, -, -, -⟩, ⟨x0, x1, x2, x3⟩, -⟩ := hC; go_simp; first | done | (simp; done) | (simp [*]; done) | omega | (simp; omega) | (rw [IntKind.wrap_i64]; omega) | (intro hx; omega) | rfl)
          simp only [Act.put, List.setIfInBounds_toArray, List.set_cons_zero, List.set_cons_succ]
          refine q_run (v := .agg #[.int .u64 (hI y), .int .u64 (lI y), .int .i64 m]) (by rfl) ?_ ?_
          · (intro w1 hC; obtain ⟨⟨z0, z1, z2, -, -, -⟩, ⟨x0, x1, x2, x3⟩, -⟩ := hC; go_simp; first | done | (simp; done) | (simp [*]; done) | omega | (simp; omega) | (rw [IntKind.wrap_i64]; omega) | (intro hx; omega) | rfl)
          simp only [Act.put, List.setIfInBounds_toArray, List.set_cons_zero, List.set_cons_succ]
          refine q_call (v := .int .i64 cz) (f := 118) (args := #[.agg #[.int .u64 (hI x), .int .u64 (lI x), .int .i64 n, .int .i64 h], .agg #[.int .u64 (hI y), .int .u64 (lI y), .int .i64 m]]) (by rfl) ?_ ?_ ?_
          · (intro w1 hC; clear hC; go_simp)
          · exact fun w1 hC => (KC w1).mono fun e w' ⟨he, hb⟩ => ⟨he, hC.below hb⟩
          simp only [Act.put, List.setIfInBounds_toArray, List.set_cons_zero, List.set_cons_succ]
          refine q_run (v := .bool (decide (cz < 0))) (by rfl) ?_ ?_
          · (intro w1 hC; obtain ⟨⟨z0, z1, z2, -, -, -⟩, ⟨x0, x1, x2, x3⟩, -⟩ := hC; go_simp; first | done | (simp; done) | (simp [*]; done) | omega | (simp; omega) | (rw [IntKind.wrap_i64]; omega) | (intro hx; omega) | rfl)
          simp only [Act.put, List.setIfInBounds_toArray, List.set_cons_zero, List.set_cons_succ]
          refine wpQuiet_nil ?_
          simp only [putAll, Act.put, List.setIfInBounds_toArray, List.set_cons_zero, List.set_cons_succ]
        case fin =>
          intro W hC
          simp only [putAll, Act.put, List.setIfInBounds_toArray, List.set_cons_zero, List.set_cons_succ]
          dsimp only [List.drop]
          have HA := hidR hC.1
          have HB := hidR hC.2.2
          clear hC HC KC hqi hw1 hw2
          by_cases hz : cz < 0
          · have hw3 : IntKind.i64.wrap ((q : Int) + 1) = (q : Int) + 1 := by rw [IntKind.wrap_i64]; omega
            go_wp2
            go_roundw
            case rel =>
              refine ⟨q + 1, j, by go_num, rfl, by omega, by omega, ⟨fun a ha hh => ?_, HI.out.2⟩, HA, HB⟩
              exact HM.out a q hql (by omega) (by rw [HZ.out]; exact hz)
            case measure => simp [intOf]; omega
          · go_wp2
            go_roundw
            case rel =>
              refine ⟨i, q, rfl, rfl, by omega, by omega, ⟨HI.out.1, fun a ha hh => Int.not_lt.mp fun hn => ?_⟩, HA, HB⟩
              have := HM.out q a ha hh hn
              rw [HZ.out] at this
              omega
            case measure => simp [intOf]; omega
    · have hd : ¬ i < j := by omega
      have hji : j = i := by omega
      subst hji
      by_cases hin : j < l.length
      · rcases HV.out with e | ⟨b, off, rfl, hc⟩
        · rw [e] at hin; simp at hin
        · obtain ⟨x0, x1, x2, x3⟩ := rwr_cells hc j hin
          have HC := hidR (CBs.drew ⟨HA.out, ⟨keepc HB.out x0, keepc HB.out x1, keepc HB.out x2, keepc HB.out x3⟩, HB.out⟩ : CBs w b (off + j * 4) y m l[j].1.1 l[j].1.2 l[j].2 wr.drew)
          have KC := fun w => cmpAt_any l[j].1.1 l[j].1.2 l[j].2 y m w
          have HR : Hid ((match l[j]? with | some r => decide (toP y m r = 0) | none => false) = (pcmpZ l[j].1.1 l[j].1.2 y m == 0)) := by
            show _ = _
            rw [List.getElem?_eq_getElem hin]
            rfl
          clear x0 x1 x2 x3 hc HA HB
          revert KC HR HC
          generalize pcmpZ l[j].1.1 l[j].1.2 y m = cz
          generalize l[j].1.1 = x
          generalize l[j].1.2 = n
          generalize l[j].2 = h
          intro HC KC HR
          have hin' : (j : Int) < (l.length : Int) := by omega
          go_wp2_with fail
          refine qp_region2 16 (qpOk 16 16 (by decide) (fun N => by kernel_rfl) (by kernel_rfl) (by kernel_rfl) (by kernel_rfl) (by kernel_rfl)) (C := CBs w b (off + j * 4) y m x n h) [some 35, some 36, some 37, some 38, some 39, some 40, some 41, some 42, some 43, some 44, some 45, some 46, some 47, some 48, some 6, some 7] [.int .i64 (j : Int), .int .i64 (j : Int), .int .i64 (l.length : Int), .bool true, .bool true, .func (.func 118) #[] #[], .slice (some ⟨b, off, none⟩) l.length c, .int .i64 (j : Int), .pointer (some ⟨b, off + j * 4, none⟩), .agg #[.int .u64 (hI x), .int .u64 (lI x), .int .i64 n, .int .i64 h], .agg #[.int .u64 (hI y), .int .u64 (lI y), .int .i64 m], .int .i64 cz, .bool (cz == 0), .bool (cz == 0), .int .i64 (j : Int), .bool (cz == 0)] (by kernel_rfl) HC.out ?walk ?fin
          case walk =>
            dsimp only [List.take]
            refine q_run (v := .int .i64 (j : Int)) (by rfl) ?_ ?_
            · (intro w1 hC; obtain ⟨⟨z0, z1, z2, -, -, -⟩, ⟨x0, x1, x2, x3⟩, -⟩ := hC; go_simp; first | done | (simp; done) | (simp [*]; done) | omega | (simp; omega) | (rw [IntKind.wrap_i64]; omega) | (intro hx; omega) | rfl)
            simp only [Act.put, List.setIfInBounds_toArray, List.set_cons_zero, List.set_cons_succ]
            refine q_run (v := .int .i64 (j : Int)) (by rfl) ?_ ?_
            · (intro w1 hC; obtain ⟨⟨z0, z1, z2, -, -, -⟩, ⟨x0, x1, x2, x3⟩, -⟩ := hC; go_simp; first | done | (simp; done) | (simp [*]; done) | omega | (simp; omega) | (rw [IntKind.wrap_i64]; omega) | (intro hx; omega) | rfl)
            simp only [Act.put, List.setIfInBounds_toArray, List.set_cons_zero, List.set_cons_succ]
            refine q_run (v := .int .i64 (l.length : Int)) (by rfl) ?_ ?_
            · (intro w1 hC; obtain ⟨⟨z0, z1, z2, -, -, -⟩, ⟨x0, x1, x2, x3⟩, -⟩ := hC; go_simp; first | done | (simp; done) | (simp [*]; done) | omega | (simp; omega) | (rw [IntKind.wrap_i64]; omega) | (intro hx; omega) | rfl)
            simp only [Act.put, List.setIfInBounds_toArray, List.set_cons_zero, List.set_cons_succ]
            refine q_run (v := .bool true) (by rfl) ?_ ?_
            · (intro w1 hC; obtain ⟨⟨z0, z1, z2, -, -, -⟩, ⟨x0, x1, x2, x3⟩, -⟩ := hC; go_simp; first | done | (simp; done) | (simp [*]; done) | omega | (simp; omega) | (rw [IntKind.wrap_i64]; omega) | (intro hx; omega) | rfl)
            simp only [Act.put, List.setIfInBounds_toArray, List.set_cons_zero, List.set_cons_succ]
            refine q_run (v := .bool true) (by rfl) ?_ ?_
            · (intro w1 hC; obtain ⟨⟨z0, z1, z2, -, -, -⟩, ⟨x0, x1, x2, x3⟩, -⟩ := hC; go_simp; first | done | (simp; done) | (simp [*]; done) | omega | (simp; omega) | (rw [IntKind.wrap_i64]; omega) | (intro hx; omega) | rfl)
            simp only [Act.put, List.setIfInBounds_toArray, List.set_cons_zero, List.set_cons_succ]
            refine q_run (v := .func (.func 118) #[] #[]) (by rfl) ?_ ?_
            · (intro w1 hC; obtain ⟨⟨z0, z1, z2, -, -, -⟩, ⟨x0, x1, x2, x3⟩, -⟩ := hC; go_simp; first | done | (simp; done) | (simp [*]; done) | omega | (simp; omega) | (rw [IntKind.wrap_i64]; omega) | (intro hx; omega) | rfl)
            simp only [Act.put, List.setIfInBounds_toArray, List.set_cons_zero, List.set_cons_succ]
            refine q_run (v := .slice (some ⟨b, off, none⟩) l.length c) (by rfl) ?_ ?_
            · (intro w1 hC; obtain ⟨⟨z0, z1, z2, -, -, -⟩, ⟨x0, x1, x2, x3⟩, -⟩ := hC; go_simp; first | done | (simp; done) | (simp [*]; done) | omega | (simp; omega) | (rw [IntKind.wrap_i64]; omega) | (intro hx; omega) | rfl)
            simp only [Act.put, List.setIfInBounds_toArray, List.set_cons_zero, List.set_cons_succ]
            refine q_run (v := .int .i64 (j : Int)) (by rfl) ?_ ?_
            · (intro w1 hC; obtain ⟨⟨z0, z1, z2, -, -, -⟩, ⟨x0, x1, x2, x3⟩, -⟩ := hC; go_simp; first | done | (simp; done) | (simp [*]; done) | omega | (simp; omega) | (rw [IntKind.wrap_i64]; omega) | (intro hx; omega) | rfl)
            simp only [Act.put, List.setIfInBounds_toArray, List.set_cons_zero, List.set_cons_succ]
            refine q_run (v := .pointer (some ⟨b, off + j * 4, none⟩)) (by rfl) ?_ ?_
            · (intro w1 hC; obtain ⟨⟨z0, z1, z2, -, -, -⟩, ⟨x0, x1, x2, x3⟩, -⟩ := hC; go_simp; first | done | (simp; done) | (simp [*]; done) | omega | (simp; omega) | (rw [IntKind.wrap_i64]; omega) | (intro hx; omega) | rfl)
            simp only [Act.put, List.setIfInBounds_toArray, List.set_cons_zero, List.set_cons_succ]
            refine q_run (v := .agg #[.int .u64 (hI x), .int .u64 (lI x), .int .i64 n, .int .i64 h]) (by rfl) ?_ ?_
            · (intro w1 hC; obtain ⟨⟨z0, z1, z2, -, -, -⟩, ⟨x0, x1, x2, x3⟩, -⟩ := hC; go_simp; first | done | (simp; done) | (simp [*]; done) | omega | (simp; omega) | (rw [IntKind.wrap_i64]; omega) | (intro hx; omega) | rfl)
            simp only [Act.put, List.setIfInBounds_toArray, List.set_cons_zero, List.set_cons_succ]
            refine q_run (v := .agg #[.int .u64 (hI y), .int .u64 (lI y), .int .i64 m]) (by rfl) ?_ ?_
            · (intro w1 hC; obtain ⟨⟨z0, z1, z2, -, -, -⟩, ⟨x0, x1, x2, x3⟩, -⟩ := hC; go_simp; first | done | (simp; done) | (simp [*]; done) | omega | (simp; omega) | (rw [IntKind.wrap_i64]; omega) | (intro hx; omega) | rfl)
            simp only [Act.put, List.setIfInBounds_toArray, List.set_cons_zero, List.set_cons_succ]
            refine q_call (v := .int .i64 cz) (f := 118) (args := #[.agg #[.int .u64 (hI x), .int .u64 (lI x), .int .i64 n, .int .i64 h], .agg #[.int .u64 (hI y), .int .u64 (lI y), .int .i64 m]]) (by rfl) ?_ ?_ ?_
            · (intro w1 hC; clear hC; go_simp)
            · exact fun w1 hC => (KC w1).mono fun e w' ⟨he, hb⟩ => ⟨he, hC.below hb⟩
            simp only [Act.put, List.setIfInBounds_toArray, List.set_cons_zero, List.set_cons_succ]
            refine q_run (v := .bool (cz == 0)) (by rfl) ?_ ?_
            · (intro w1 hC; obtain ⟨⟨z0, z1, z2, -, -, -⟩, ⟨x0, x1, x2, x3⟩, -⟩ := hC; go_simp; first | done | (simp; done) | (simp [*]; done) | omega | (simp; omega) | (rw [IntKind.wrap_i64]; omega) | (intro hx; omega) | rfl)
            simp only [Act.put, List.setIfInBounds_toArray, List.set_cons_zero, List.set_cons_succ]
            refine q_run (v := .bool (cz == 0)) (by rfl) ?_ ?_
            · (intro w1 hC; obtain ⟨⟨z0, z1, z2, -, -, -⟩, ⟨x0, x1, x2, x3⟩, -⟩ := hC; go_simp; first | done | (simp; done) | (simp [*]; done) | omega | (simp; omega) | (rw [IntKind.wrap_i64]; omega) | (intro hx; omega) | rfl)
            simp only [Act.put, List.setIfInBounds_toArray, List.set_cons_zero, List.set_cons_succ]
            refine q_run (v := .int .i64 (j : Int)) (by rfl) ?_ ?_
            · (intro w1 hC; obtain ⟨⟨z0, z1, z2, -, -, -⟩, ⟨x0, x1, x2, x3⟩, -⟩ := hC; go_simp; first | done | (simp; done) | (simp [*]; done) | omega | (simp; omega) | (rw [IntKind.wrap_i64]; omega) | (intro hx; omega) | rfl)
            simp only [Act.put, List.setIfInBounds_toArray, List.set_cons_zero, List.set_cons_succ]
            refine q_run (v := .bool (cz == 0)) (by rfl) ?_ ?_
            · (intro w1 hC; obtain ⟨⟨z0, z1, z2, -, -, -⟩, ⟨x0, x1, x2, x3⟩, -⟩ := hC; go_simp; first | done | (simp; done) | (simp [*]; done) | omega | (simp; omega) | (rw [IntKind.wrap_i64]; omega) | (intro hx; omega) | rfl)
            simp only [Act.put, List.setIfInBounds_toArray, List.set_cons_zero, List.set_cons_succ]
            refine wpQuiet_nil ?_
            simp only [putAll, Act.put, List.setIfInBounds_toArray, List.set_cons_zero, List.set_cons_succ]
          case fin =>
            intro W hC
            simp only [putAll, Act.put, List.setIfInBounds_toArray, List.set_cons_zero, List.set_cons_succ]
            dsimp only [List.drop]
            have HB := hidR hC.2.2
            clear hC HC KC
            go_wp2
            exact bodyPost_ret (v := .tuple #[.int .i64 (j : Int), .bool (cz == 0)]) (by simp [results, Tryz.results117, go_sem]) rfl ⟨⟨j, by omega, fun a ha => ⟨fun hh => HI.out.1 a ha hh, fun hh => Classical.byContradiction fun hn => absurd hh (Int.not_lt.mpr (HI.out.2 a ha (by omega)))⟩, by rw [HR.out]⟩, HB.out⟩
      · have hin' : ¬ (j : Int) < (l.length : Int) := by omega
        have HC := hidR HB.out.drew
        have HR : Hid ((match l[j]? with | some r => decide (toP y m r = 0) | none => false) = false) := by
          show _ = _
          rw [List.getElem?_eq_none (by omega)]
        clear HA HB
        go_wp2_with fail
        refine qw_region (C := fun W => Below w.heap.size w W) (by kernel_rfl) (by kernel_rfl) HC.out ?_
        clear HC
        refine qw_run (v := .int .i64 (j : Int)) (by rfl) ?_ ?_
        · (intro w1 hC; obtain hD := hC; go_simp; first | done | (simp; done) | (simp [*]; done) | omega | (simp; omega) | (rw [IntKind.wrap_i64]; omega) | (intro hx; omega) | rfl)
        simp only [Act.put, List.setIfInBounds_toArray, List.set_cons_zero, List.set_cons_succ]
        refine qw_run (v := .int .i64 (j : Int)) (by rfl) ?_ ?_
        · (intro w1 hC; obtain hD := hC; go_simp; first | done | (simp; done) | (simp [*]; done) | omega | (simp; omega) | (rw [IntKind.wrap_i64]; omega) | (intro hx; omega) | rfl)
        simp only [Act.put, List.setIfInBounds_toArray, List.set_cons_zero, List.set_cons_succ]
        refine qw_run (v := .int .i64 (l.length : Int)) (by rfl) ?_ ?_
        · (intro w1 hC; obtain hD := hC; go_simp; first | done | (simp; done) | (simp [*]; done) | omega | (simp; omega) | (rw [IntKind.wrap_i64]; omega) | (intro hx; omega) | rfl)
        simp only [Act.put, List.setIfInBounds_toArray, List.set_cons_zero, List.set_cons_succ]
        refine qw_run (v := .bool false) (by rfl) ?_ ?_
        · (intro w1 hC; obtain hD := hC; go_simp; first | done | (simp; done) | (simp [*]; done) | omega | (simp; omega) | (rw [IntKind.wrap_i64]; omega) | (intro hx; omega) | rfl)
        simp only [Act.put, List.setIfInBounds_toArray, List.set_cons_zero, List.set_cons_succ]
        refine qw_run (v := .bool false) (by rfl) ?_ ?_
        · (intro w1 hC; obtain hD := hC; go_simp; first | done | (simp; done) | (simp [*]; done) | omega | (simp; omega) | (rw [IntKind.wrap_i64]; omega) | (intro hx; omega) | rfl)
        simp only [Act.put, List.setIfInBounds_toArray, List.set_cons_zero, List.set_cons_succ]
        refine qw_skip (by rfl) ?_
        simp only [Act.put, List.setIfInBounds_toArray, List.set_cons_zero, List.set_cons_succ]
        refine qw_skip (by rfl) ?_
        simp only [Act.put, List.setIfInBounds_toArray, List.set_cons_zero, List.set_cons_succ]
        refine qw_skip (by rfl) ?_
        simp only [Act.put, List.setIfInBounds_toArray, List.set_cons_zero, List.set_cons_succ]
        refine qw_skip (by rfl) ?_
        simp only [Act.put, List.setIfInBounds_toArray, List.set_cons_zero, List.set_cons_succ]
        refine qw_skip (by rfl) ?_
        simp only [Act.put, List.setIfInBounds_toArray, List.set_cons_zero, List.set_cons_succ]
        refine qw_skip (by rfl) ?_
        simp only [Act.put, List.setIfInBounds_toArray, List.set_cons_zero, List.set_cons_succ]
        refine qw_skip (by rfl) ?_
        simp only [Act.put, List.setIfInBounds_toArray, List.set_cons_zero, List.set_cons_succ]
        refine qw_skip (by rfl) ?_
        simp only [Act.put, List.setIfInBounds_toArray, List.set_cons_zero, List.set_cons_succ]
        refine qw_run (v := .bool false) (by rfl) ?_ ?_
        · (intro w1 hC; obtain hD := hC; go_simp; first | done | (simp; done) | (simp [*]; done) | omega | (simp; omega) | (rw [IntKind.wrap_i64]; omega) | (intro hx; omega) | rfl)
        simp only [Act.put, List.setIfInBounds_toArray, List.set_cons_zero, List.set_cons_succ]
        refine qw_run (v := .int .i64 (j : Int)) (by rfl) ?_ ?_
        · (intro w1 hC; obtain hD := hC; go_simp; first | done | (simp; done) | (simp [*]; done) | omega | (simp; omega) | (rw [IntKind.wrap_i64]; omega) | (intro hx; omega) | rfl)
        simp only [Act.put, List.setIfInBounds_toArray, List.set_cons_zero, List.set_cons_succ]
        refine qw_run (v := .bool false) (by rfl) ?_ ?_
        · (intro w1 hC; obtain hD := hC; go_simp; first | done | (simp; done) | (simp [*]; done) | omega | (simp; omega) | (rw [IntKind.wrap_i64]; omega) | (intro hx; omega) | rfl)
        simp only [Act.put, List.setIfInBounds_toArray, List.set_cons_zero, List.set_cons_succ]
        refine qw_nil ?_
        intro W hC
        have HB := hidR hC
        clear hC
        go_wp2
        exact bodyPost_ret (v := .tuple #[.int .i64 (j : Int), .bool false]) (by simp [results, Tryz.results117, go_sem]) rfl ⟨⟨j, by omega, fun a ha => ⟨fun hh => HI.out.1 a ha hh, fun hh => Classical.byContradiction fun hn => absurd hh (Int.not_lt.mpr (HI.out.2 a ha (by omega)))⟩, by rw [HR.out]⟩, HB.out⟩
end Go.Proofs.YtpiicdpipjjenaaGreatDoor
namespace Go.Proofs.YtpiicdpipjjenaaGreatDoor
open Go.RowKit
set_option linter.unusedSimpArgs false
set_option linter.unusedVariables false

def Mono (y : BitVec 128) (m : Int) (l : List Rte) : Prop := ∀ (a b : Nat) (hb : b < l.length) (hab : a ≤ b), toP y m l[b] < 0 → toP y m (l[a]'(by omega)) < 0
def Place (y : BitVec 128) (m : Int) (l : List Rte) (i : Nat) (ok : Bool) : Prop := i ≤ l.length ∧ (∀ (j : Nat) (hj : j < l.length), j < i ↔ toP y m l[j] < 0) ∧ ok = (match l[i]? with | some r => decide (toP y m r = 0) | none => false)
theorem Place.one {y : BitVec 128} {m : Int} {l : List Rte} {i j : Nat} {a b : Bool} (h : Place y m l i a) (g : Place y m l j b) : i = j ∧ a = b := by
  have e : i = j := by
    rcases Nat.lt_trichotomy i j with q | q | q
    · have h1 := (g.2.1 i (by have := g.1; omega)).1 q
      have h2 := (h.2.1 i (by have := g.1; omega)).2 h1
      omega
    · exact q
    · have h1 := (h.2.1 j (by have := h.1; omega)).1 q
      have h2 := (g.2.1 j (by have := h.1; omega)).2 h1
      omega
  subst e
  exact ⟨rfl, by rw [h.2.2, g.2.2]⟩
theorem place_any (y : BitVec 128) (m : Int) (v : Value) (l : List Rte) (w : World) (hv : RwR w v l) (hl : l.length ≤ 1000000000) (hm : Mono y m l) :
    Calls Tryz.prog 101 #[v, .agg #[.int .u64 (hI y), .int .u64 (lI y), .int .i64 m]] w fun e w' => (∃ (i : Nat) (ok : Bool), Place y m l i ok ∧ e = .returned (.tuple #[.int .i64 i, .bool ok])) ∧ Below w.heap.size w w' := by
  have b0 := bl1 w (.cells #[.int .u64 (hI y), .int .u64 (lI y), .int .i64 m] 45)
  obtain ⟨p0, p1, p2, -⟩ := atp_new w w.heap.size y m 45 rfl
  have KS : Calls Tryz.prog 117 #[v, .agg #[.int .u64 (hI y), .int .u64 (lI y), .int .i64 m], .func (.func 118) #[] #[]] (w.alloc (.cells #[.int .u64 (hI y), .int .u64 (lI y), .int .i64 m] 45)) fun e w' => (∃ (i : Nat) (ok : Bool), Place y m l i ok ∧ e = .returned (.tuple #[.int .i64 i, .bool ok])) ∧ Below (w.alloc (.cells #[.int .u64 (hI y), .int .u64 (lI y), .int .i64 m] 45)).heap.size (w.alloc (.cells #[.int .u64 (hI y), .int .u64 (lI y), .int .i64 m] 45)) w' := by
    refine (search_any y m v l _ (hv.below b0) hl hm).mono ?_
    rintro e w1 ⟨⟨i, h1, h2, h3⟩, hb⟩
    exact ⟨⟨i, _, ⟨h1, h2, rfl⟩, h3⟩, hb⟩
  have HB := hidR b0
  clear b0 hv hm
  go_enter Tryz.func101, Tryz.ntmps101
  go_wp2_with fail
  refine KS.mono ?_
  rintro e w1 ⟨⟨i, ok, hP, rfl⟩, hb⟩
  have HP := hidR hP
  have kB := keepb hb HB.out
  clear KS hb HB p0 p1 p2 hP
  go_wp2
  exact bodyPost_ret (v := .tuple #[.int .i64 (i : Int), .bool ok]) (by simp [results, Tryz.results101, go_sem]) rfl ⟨⟨i, ok, HP.out, rfl⟩, kB⟩
end Go.Proofs.YtpiicdpipjjenaaGreatDoor
namespace Go.Proofs.YtpiicdpipjjenaaGreatDoor
open Go.RowKit
set_option linter.unusedSimpArgs false
set_option linter.unusedVariables false

def AtT (w : World) (B : Nat) (F : Int) (v : Value) : Prop := w.cell? ⟨B, 0, none⟩ = some (.int .i64 F) ∧ w.cell? ⟨B, 1, none⟩ = some v
theorem AtT.below {w w' : World} {B : Nat} {F : Int} {v : Value} (g : AtT w B F v) (hb : Below w.heap.size w w') : AtT w' B F v := ⟨keepc hb g.1, keepc hb g.2⟩
theorem att_new (w : World) (B : Nat) (F : Int) (v : Value) (T : TypeId) (e : B = w.heap.size) : AtT (w.alloc (.cells #[.int .i64 F, v] T)) B F v := by
  subst e
  refine ⟨?_, ?_⟩ <;> simp [go_sem]
end Go.Proofs.YtpiicdpipjjenaaGreatDoor
namespace Go.Proofs.YtpiicdpipjjenaaGreatDoor
open Go.RowKit
set_option linter.unusedSimpArgs false
set_option linter.unusedVariables false

theorem eqP_run (x : BitVec 128) (n : Int) (y : BitVec 128) (m : Int) (w : World) :
    (Op.equalIn 10000 45 (.agg #[.int .u64 (hI x), .int .u64 (lI x), .int .i64 n]) (.agg #[.int .u64 (hI y), .int .u64 (lI y), .int .i64 m])).run Tryz.prog w = .ok ((x == y) && (n == m)) w := by
  rcases eqw x y with ⟨q1, q2, q3⟩ | ⟨q1, q3⟩ | ⟨q1, q2, q3⟩
  all_goals
    rw [q3]
    go_simp
    try simp [*]
    try (by_cases e : n = m <;> simp [e])
end Go.Proofs.YtpiicdpipjjenaaGreatDoor
namespace Go.Proofs.YtpiicdpipjjenaaGreatDoor
open Go.RowKit
set_option linter.unusedSimpArgs false
set_option linter.unusedVariables false

end Go.Proofs.YtpiicdpipjjenaaGreatDoor
namespace Go.Proofs.YtpiicdpipjjenaaGreatDoor
open Go.RowKit
set_option linter.unusedSimpArgs false
set_option linter.unusedVariables false

theorem cut_shift (x : BitVec 128) (n : Int) : cutW x n = (x >>> (128 - n.toNat)) <<< (128 - n.toNat) := by
  apply BitVec.eq_of_getLsbD_eq
  intro j hj
  unfold cutW
  rw [BitVec.getLsbD_and, maskW_bit n j hj, BitVec.getLsbD_shiftLeft, BitVec.getLsbD_ushiftRight]
  by_cases c : 128 - n.toNat ≤ j
  · have e : 128 - n.toNat + (j - (128 - n.toNat)) = j := by omega
    have d : ¬ j < 128 - n.toNat := by omega
    simp [c, d, hj, e]
  · have d : j < 128 - n.toNat := by omega
    simp [c, d]
theorem cut_nat (x : BitVec 128) (n : Int) : (cutW x n).toNat = x.toNat / 2 ^ (128 - n.toNat) * 2 ^ (128 - n.toNat) := by
  rw [cut_shift, BitVec.toNat_shiftLeft, BitVec.toNat_ushiftRight, Nat.shiftLeft_eq, Nat.shiftRight_eq_div_pow]
  apply Nat.mod_eq_of_lt
  exact Nat.lt_of_le_of_lt (Nat.div_mul_le_self _ _) x.isLt
theorem cut_mono (x y : BitVec 128) (n : Int) (h : x.toNat ≤ y.toNat) : (cutW x n).toNat ≤ (cutW y n).toNat := by
  rw [cut_nat, cut_nat]
  exact Nat.mul_le_mul_right _ (Nat.div_le_div_right h)
theorem cmpZ_ways (x y : BitVec 128) : (x.toNat < y.toNat ∧ cmpZ x y = -1) ∨ (x = y ∧ cmpZ x y = 0) ∨ (y.toNat < x.toNat ∧ cmpZ x y = 1) := by
  unfold cmpZ
  by_cases h : x.toNat < y.toNat
  · left; rw [if_pos h]; exact ⟨h, rfl⟩
  · rw [if_neg h]
    by_cases e : x = y
    · right; left; rw [if_pos e]; exact ⟨e, rfl⟩
    · right; right; rw [if_neg e]
      have : ¬ x.toNat = y.toNat := fun q => e (BitVec.eq_of_toNat_eq q)
      exact ⟨by omega, rfl⟩
theorem pcmp_ways (x : BitVec 128) (n : Int) (y : BitVec 128) (m : Int) :
    ((x.toNat < y.toNat ∨ (x = y ∧ n < m)) ∧ pcmpZ x n y m = -1) ∨ ((x = y ∧ n = m) ∧ pcmpZ x n y m = 0) ∨ ((y.toNat < x.toNat ∨ (x = y ∧ m < n)) ∧ pcmpZ x n y m = 1) := by
  unfold pcmpZ
  rcases cmpZ_ways x y with ⟨h, e⟩ | ⟨h, e⟩ | ⟨h, e⟩
  · left; rw [e, if_neg (by decide)]; exact ⟨Or.inl h, rfl⟩
  · rw [e, if_pos rfl]
    unfold cmpI
    by_cases h1 : n < m
    · left; rw [if_pos h1]; exact ⟨Or.inr ⟨h, h1⟩, rfl⟩
    · rw [if_neg h1]
      by_cases h2 : m < n
      · right; right; rw [if_pos h2]; exact ⟨Or.inr ⟨h, h2⟩, rfl⟩
      · right; left; rw [if_neg h2]; exact ⟨⟨h, by omega⟩, rfl⟩
  · right; right; rw [e, if_neg (by decide)]; exact ⟨Or.inl h, rfl⟩
theorem pcmp_le (x : BitVec 128) (n : Int) (y : BitVec 128) (m : Int) : pcmpZ x n y m ≤ 0 ↔ (x.toNat < y.toNat ∨ (x = y ∧ n ≤ m)) := by
  rcases pcmp_ways x n y m with ⟨h, e⟩ | ⟨h, e⟩ | ⟨h, e⟩ <;> rw [e]
  · refine ⟨fun _ => ?_, fun _ => by decide⟩
    rcases h with h | ⟨rfl, h⟩
    · exact Or.inl h
    · exact Or.inr ⟨rfl, by omega⟩
  · refine ⟨fun _ => Or.inr ⟨h.1, by omega⟩, fun _ => by decide⟩
  · refine ⟨fun q => absurd q (by decide), fun q => ?_⟩
    exfalso
    rcases h with h | ⟨rfl, h⟩ <;> rcases q with q | ⟨q1, q⟩ <;> (try subst q1) <;> omega
theorem pcmp_eq0 (x : BitVec 128) (n : Int) (y : BitVec 128) (m : Int) : pcmpZ x n y m = 0 ↔ (x = y ∧ n = m) := by
  rcases pcmp_ways x n y m with ⟨h, e⟩ | ⟨h, e⟩ | ⟨h, e⟩ <;> rw [e]
  · refine ⟨fun q => absurd q (by decide), fun q => ?_⟩
    obtain ⟨rfl, rfl⟩ := q; rcases h with h | ⟨_, h⟩ <;> omega
  · exact ⟨fun _ => h, fun _ => rfl⟩
  · refine ⟨fun q => absurd q (by decide), fun q => ?_⟩
    obtain ⟨rfl, rfl⟩ := q; rcases h with h | ⟨_, h⟩ <;> omega
theorem within_iff (x : BitVec 128) (n : Int) (y : BitVec 128) (m : Int) : withinB x n y m = true ↔ (m ≤ n ∧ cutW x m = y) := by
  unfold withinB
  simp
theorem between (F : Int) (x : BitVec 128) (n : Int) (y : BitVec 128) (m : Int) (z : BitVec 128) (k : Int) (hx : Rt F x n) (hy : Rt F y m) (h1 : pcmpZ x n y m ≤ 0) (h2 : pcmpZ y m z k ≤ 0) (h3 : withinB z k x n = true) : withinB y m x n = true := by
  rw [within_iff] at h3 ⊢
  rw [pcmp_le] at h1 h2
  obtain ⟨h3, h4⟩ := h3
  have hxy : x.toNat ≤ y.toNat := by rcases h1 with h | ⟨rfl, _⟩ <;> omega
  have hyz : y.toNat ≤ z.toNat := by rcases h2 with h | ⟨rfl, _⟩ <;> omega
  have c1 := cut_mono x y n hxy
  have c2 := cut_mono y z n hyz
  rw [hx.2.2] at c1
  rw [h4] at c2
  have hc : cutW y n = x := BitVec.eq_of_toNat_eq (by omega)
  refine ⟨?_, hc⟩
  apply Classical.byContradiction
  intro q
  have := cut_cut2 y m n hy.1 (by omega)
  rw [hy.2.2, hc] at this
  rcases h1 with h | ⟨_, h⟩
  · rw [this] at h; omega
  · omega
theorem meetN_le (x : BitVec 128) (n : Int) (y : BitVec 128) (m : Int) : meetN x n y m ≤ n ∧ meetN x n y m ≤ m ∧ meetN x n y m ≤ ((leadN (x ^^^ y) : Nat) : Int) := by
  unfold meetN; omega
theorem meetN_nn (x : BitVec 128) (n : Int) (y : BitVec 128) (m : Int) (h : 0 ≤ n) (g : 0 ≤ m) : 0 ≤ meetN x n y m := by
  unfold meetN; omega
theorem meet_above (x : BitVec 128) (n : Int) (y : BitVec 128) (m : Int) (z : BitVec 128) (k : Int) (hk : 0 ≤ k) (hn : n ≤ 128) (h1 : withinB x n z k = true) (h2 : withinB y m z k = true) : withinB (cutW x (meetN x n y m)) (meetN x n y m) z k = true := by
  rw [within_iff] at *
  have : k ≤ ((leadN (x ^^^ y) : Nat) : Int) := (lead_mask (x ^^^ y) k hk (by omega)).mpr ((xor_mask x y _).mpr (by
    have e1 := h1.2; have e2 := h2.2
    unfold cutW at e1 e2
    rw [e1, e2]))
  have hm : k ≤ meetN x n y m := by unfold meetN; omega
  exact ⟨hm, by rw [cut_cut x k _ hk hm]; exact h1.2⟩
end Go.Proofs.YtpiicdpipjjenaaGreatDoor
namespace Go.Proofs.YtpiicdpipjjenaaGreatDoor
open Go.RowKit
set_option linter.unusedSimpArgs false
set_option linter.unusedVariables false

def OrdR (l : List Rte) : Prop := ∀ (a b : Nat) (hb : b < l.length) (hab : a < b), pcmpZ (l[a]'(by omega)).1.1 (l[a]'(by omega)).1.2 l[b].1.1 l[b].1.2 < 0
theorem pcmp_lt (x : BitVec 128) (n : Int) (y : BitVec 128) (m : Int) : pcmpZ x n y m < 0 ↔ (x.toNat < y.toNat ∨ (x.toNat = y.toNat ∧ n < m)) := by
  have h := pcmp_le x n y m
  have e := pcmp_eq0 x n y m
  constructor
  · intro q
    rcases h.1 (by omega) with r | ⟨r, s⟩
    · exact .inl r
    · refine .inr ⟨by rw [r], ?_⟩
      rcases Int.lt_or_eq_of_le s with t | t
      · exact t
      · have := e.2 ⟨r, t⟩; omega
  · intro q
    have hle : pcmpZ x n y m ≤ 0 := h.2 (q.imp id fun ⟨r, s⟩ => ⟨BitVec.eq_of_toNat_eq r, by omega⟩)
    have hne : pcmpZ x n y m ≠ 0 := fun q0 => by
      obtain ⟨r, s⟩ := e.1 q0
      rcases q with q | ⟨-, q⟩
      · rw [r] at q; omega
      · omega
    omega
theorem ord_mono {l : List Rte} (h : OrdR l) (y : BitVec 128) (m : Int) : Mono y m l := by
  intro a b hb hab hlt
  rcases Nat.lt_or_eq_of_le hab with q | q
  · have h1 := (pcmp_lt _ _ _ _).1 (h a b hb q)
    have h2 := (pcmp_lt _ _ _ _).1 hlt
    refine (pcmp_lt _ _ _ _).2 ?_
    omega
  · subst q; exact hlt
end Go.Proofs.YtpiicdpipjjenaaGreatDoor
