/-
  Part 9 of the proof: 6 texts, one behind the other.
-/
import Derived.Test.YtpiicdpipjjenaaGreatDoorPart8
import Derived.Test.YtpiicdpipjjenaaGreatDoorPart7
import Derived.Test.YtpiicdpipjjenaaGreatDoorPart2
import Derived.Test.YtpiicdpipjjenaaGreatDoorPart1
import Derived.Laws.AppendOwnNone
import Derived.Deep.AppendLies
import Derived.Deep.RegionHeld3
import Derived.Test.YtpiicdpipjjenaaGreatDoorPart6
import Derived.Lib.AppendStr
import Derived.Lib.UnsafeStr
import Derived.Laws.IdiomStrings
namespace Go.Proofs.YtpiicdpipjjenaaGreatDoor
open Go.RowKit
set_option linter.unusedSimpArgs false
set_option linter.unusedVariables false

set_option maxHeartbeats 2000000 in
theorem rchecked_any (F : Int) (x : BitVec 128) (n h : Int) (w : World) :
    Calls Tryz.prog 30 #[.int .i64 F, .agg #[.int .u64 (hI x), .int .u64 (lI x), .int .i64 n, .int .i64 h]] w fun e w' => e = .returned (.int .i64 (rteE F ((x, n), h))) ∧ Below w.heap.size w w' := by
  have KC := fun w => rcheck_any F x n w
  unfold rteE hopB
  dsimp only
  revert KC
  generalize checkE F x n = ce
  intro KC
  obtain ⟨p0, p1, p2, p3⟩ := atr_new w w.heap.size x n h 47 rfl
  have A1 := hidR (atr_new w w.heap.size x n h 47 rfl)
  have b1 := hidR (bl1 w (.cells #[.int .u64 (hI x), .int .u64 (lI x), .int .i64 n, .int .i64 h] 47))
  obtain ⟨re, hre⟩ : ∃ re, re = if ce = 0 then if (decide (1 ≤ h) && decide (h ≤ 65535)) = true then (0 : Int) else 15 else ce := ⟨_, rfl⟩
  rw [← hre]
  have HRE := hidR hre
  clear hre
  go_enter Tryz.func30, Tryz.ntmps30
  go_wp2_with fail
  refine (KC _).mono ?_
  rintro e w1 ⟨rfl, hb⟩
  have kB := keepb hb b1.out
  obtain ⟨q0, q1, q2, q3⟩ := A1.out.below hb
  clear KC hb A1 b1 p0 p1 p2 p3
  by_cases hc : ce = 0
  · subst hc
    by_cases g1 : h < 1
    · have HE : Hid (re = 15) := hidR (by rw [HRE.out, if_pos rfl, if_neg (by simp; omega)])
      clear HRE
      go_wp2
      go_ret
      exact ⟨by rw [HE.out]; rfl, kB⟩
    · by_cases g2 : 65535 < h
      · have HE : Hid (re = 15) := hidR (by rw [HRE.out, if_pos rfl, if_neg (by simp; omega)])
        clear HRE
        go_wp2
        go_ret
        exact ⟨by rw [HE.out]; rfl, kB⟩
      · have HE : Hid (re = 0) := hidR (by rw [HRE.out, if_pos rfl, if_pos (by simp; omega)])
        clear HRE
        go_wp2
        go_ret
        exact ⟨by rw [HE.out]; rfl, kB⟩
  · have hn : (ce == 0) = false := by simp [hc]
    have HE : Hid (re = ce) := hidR (by rw [HRE.out, if_neg hc])
    clear HRE
    go_wp2
    go_ret
    exact ⟨by rw [HE.out]; rfl, kB⟩
def C8 (w : World) (F : Int) (v : Value) (b o : Nat) (x : BitVec 128) (n h : Int) (W : World) : Prop := AtT W w.heap.size F v ∧ (W.cell? ⟨b, o, none⟩ = some (.int .u64 (hI x)) ∧ W.cell? ⟨b, o + 1, none⟩ = some (.int .u64 (lI x)) ∧ W.cell? ⟨b, o + 2, none⟩ = some (.int .i64 n) ∧ W.cell? ⟨b, o + 3, none⟩ = some (.int .i64 h)) ∧ Below w.heap.size w W
theorem C8.below {w W W' : World} {F : Int} {v : Value} {b o : Nat} {x : BitVec 128} {n h : Int} (g : C8 w F v b o x n h W) (hb : Below W.heap.size W W') : C8 w F v b o x n h W' := ⟨g.1.below hb, ⟨keepc hb g.2.1.1, keepc hb g.2.1.2.1, keepc hb g.2.1.2.2.1, keepc hb g.2.1.2.2.2⟩, keepb hb g.2.2⟩
theorem C8.drew {w W : World} {F : Int} {v : Value} {b o : Nat} {x : BitVec 128} {n h : Int} (g : C8 w F v b o x n h W) : C8 w F v b o x n h W.drew := ⟨g.1, g.2.1, g.2.2.drew⟩
def C14 (w : World) (F : Int) (v : Value) (b o u : Nat) (x : BitVec 128) (n h : Int) (y : BitVec 128) (m g : Int) (W : World) : Prop := AtT W w.heap.size F v ∧ (W.cell? ⟨b, o, none⟩ = some (.int .u64 (hI x)) ∧ W.cell? ⟨b, o + 1, none⟩ = some (.int .u64 (lI x)) ∧ W.cell? ⟨b, o + 2, none⟩ = some (.int .i64 n) ∧ W.cell? ⟨b, o + 3, none⟩ = some (.int .i64 h)) ∧ (W.cell? ⟨b, u, none⟩ = some (.int .u64 (hI y)) ∧ W.cell? ⟨b, u + 1, none⟩ = some (.int .u64 (lI y)) ∧ W.cell? ⟨b, u + 2, none⟩ = some (.int .i64 m) ∧ W.cell? ⟨b, u + 3, none⟩ = some (.int .i64 g)) ∧ Below w.heap.size w W
theorem C14.below {w W W' : World} {F : Int} {v : Value} {b o u : Nat} {x : BitVec 128} {n h : Int} {y : BitVec 128} {m g : Int} (q : C14 w F v b o u x n h y m g W) (hb : Below W.heap.size W W') : C14 w F v b o u x n h y m g W' := ⟨q.1.below hb, ⟨keepc hb q.2.1.1, keepc hb q.2.1.2.1, keepc hb q.2.1.2.2.1, keepc hb q.2.1.2.2.2⟩, ⟨keepc hb q.2.2.1.1, keepc hb q.2.2.1.2.1, keepc hb q.2.2.1.2.2.1, keepc hb q.2.2.1.2.2.2⟩, keepb hb q.2.2.2⟩
theorem C14.drew {w W : World} {F : Int} {v : Value} {b o u : Nat} {x : BitVec 128} {n h : Int} {y : BitVec 128} {m g : Int} (q : C14 w F v b o u x n h y m g W) : C14 w F v b o u x n h y m g W.drew := ⟨q.1, q.2.1, q.2.2.1, q.2.2.2.drew⟩
def Adj (l : List Rte) : Prop := ∀ (a : Nat) (h : a + 1 < l.length), pcmpZ l[a].1.1 l[a].1.2 l[a + 1].1.1 l[a + 1].1.2 < 0
def TabE (F : Int) (l : List Rte) (z : Int) : Prop := (rtsE F l ≠ 0 → z = rtsE F l) ∧ (rtsE F l = 0 → (Adj l ∧ z = 0) ∨ (¬ Adj l ∧ z = 19))
set_option maxRecDepth 20000 in
set_option maxHeartbeats 8000000 in
theorem rcheckT_any (F : Int) (v : Value) (l : List Rte) (w : World) (hv : RwR w v l) :
    Calls Tryz.prog 12 #[.agg #[.int .i64 F, v]] w fun e w' => (∃ z, TabE F l z ∧ e = .returned (.int .i64 z)) ∧ Below w.heap.size w w' := by
  obtain ⟨ao, c, rfl, hv⟩ := hv
  have KI := fun w => isFamily_any F w
  have HT := hidR (att_new w w.heap.size F (.slice ao l.length c) 24 rfl)
  have HB := hidR (bl1 w (.cells #[.int .i64 F, .slice ao l.length c] 24))
  have HV : Hid (l = [] ∨ ∃ b off, ao = some ⟨b, off, none⟩ ∧ ∀ j u, (rowR l)[j]? = some u → w.cell? ⟨b, off + j, none⟩ = some u) := hv
  obtain ⟨t0, t1⟩ := HT.out
  clear hv
  cases hf : fam F
  · rw [hf] at KI
    have HE : Hid (TabE F l 11) := hidR (by unfold TabE rtsE; rw [if_neg (by simp [hf])]; exact ⟨fun _ => rfl, fun h => by omega⟩)
    clear hf HV HT
    go_enter Tryz.func12, Tryz.ntmps12
    go_wp2_with fail
    refine (KI _).mono ?_
    rintro e w1 ⟨rfl, rfl⟩
    clear KI
    go_wp2
    go_ret
    exact ⟨⟨11, HE.out, rfl⟩, HB.out⟩
  · rw [hf] at KI
    by_cases hl : 1048576 < l.length
    · have HE : Hid (TabE F l 16) := hidR (by unfold TabE rtsE; rw [if_pos (by simp [hf]), if_pos hl]; exact ⟨fun _ => rfl, fun h => by omega⟩)
      have h1 : (1048576 : Int) < (l.length : Int) := by omega
      clear hf HV HT
      go_enter Tryz.func12, Tryz.ntmps12
      go_wp2_with fail
      refine (KI _).mono ?_
      rintro e w1 ⟨rfl, rfl⟩
      clear KI
      go_wp2
      go_ret
      exact ⟨⟨16, HE.out, rfl⟩, HB.out⟩
    · have h1 : ¬ (1048576 : Int) < (l.length : Int) := by omega
      have HRE : Hid (rtsE F l = rtsG F l) := hidR (by unfold rtsE; rw [if_pos hf, if_neg hl])
      clear hf hl
      go_enter Tryz.func12, Tryz.ntmps12
      go_wp2_with fail
      refine (KI _).mono ?_
      rintro e w1 ⟨rfl, rfl⟩
      clear KI
      go_wp2_with fail
      go_loopw [3] (fun i wr => ∃ k : Nat, k ≤ l.length ∧ i = .int .i64 k ∧ Hid (rtsG F (l.drop k) = rtsG F l) ∧ Hid (AtT wr w.heap.size F (.slice ao l.length c)) ∧ Hid (Below w.heap.size w wr)) (fun i _ => l.length - (intOf i).toNat)
      case atStart => exact ⟨0, by omega, rfl, hidR rfl, HT, HB⟩
      case round =>
        clear HT HB t0 t1
        obtain ⟨k, hk, rfl, HG, HT, HB⟩ := hrel
        obtain ⟨t0, t1⟩ := HT.out
        by_cases hlt : (k : Int) < (l.length : Int)
        · have hks : k < l.length := by omega
          rcases HV.out with e | ⟨b, off, rfl, hc⟩
          · rw [e] at hks; simp at hks
          · obtain ⟨x0, x1, x2, x3⟩ := rwr_cells hc k hks
            have HC := hidR (C8.drew ⟨HT.out, ⟨keepc HB.out x0, keepc HB.out x1, keepc HB.out x2, keepc HB.out x3⟩, HB.out⟩ : C8 w F (.slice (some ⟨b, off, none⟩) l.length c) b (off + k * 4) l[k].1.1 l[k].1.2 l[k].2 wr.drew)
            have KC := fun w => rchecked_any F l[k].1.1 l[k].1.2 l[k].2 w
            have HD := hidR (rts_drop F l k hks)
            have eR : ((l[k].1.1, l[k].1.2), l[k].2) = l[k] := rfl
            rw [eR] at KC
            have KC := KC
            clear x0 x1 x2 x3 hc HV eR HT HB
            revert KC HD HC
            generalize rteE F l[k] = ce
            generalize l[k].1.1 = px
            generalize l[k].1.2 = pn
            generalize l[k].2 = ph
            intro HC HD KC
            go_wp2_with fail
            refine qp_region2 9 (qpOk 9 9 (by decide) (fun N => by kernel_rfl) (by kernel_rfl) (by kernel_rfl) (by kernel_rfl) (by kernel_rfl)) (C := C8 w F (.slice (some ⟨b, off, none⟩) l.length c) b (off + k * 4) px pn ph) [some 21, some 22, some 23, some 24, some 25, some 26, some 27, some 28, some 4] [.pointer (some ⟨w.heap.size, 0, none⟩), .int .i64 F, .pointer (some ⟨w.heap.size, 1, none⟩), .slice (some ⟨b, off, none⟩) l.length c, .int .i64 (k : Int), .pointer (some ⟨b, off + k * 4, none⟩), .agg #[.int .u64 (hI px), .int .u64 (lI px), .int .i64 pn, .int .i64 ph], .int .i64 ce, .int .i64 ce] (by kernel_rfl) HC.out ?walk ?fin
            case walk =>
              dsimp only [List.take]
              clear HC HD HG t0 t1
              refine q_run (v := .pointer (some ⟨w.heap.size, 0, none⟩)) (by rfl) ?_ ?_
              · (intro w1 hC; obtain ⟨⟨t0, t1⟩, ⟨x0, x1, x2, x3⟩, -⟩ := hC; go_simp; first | done | (simp; done) | (simp [*]; done) | omega | (simp; omega) | (rw [IntKind.wrap_i64]; omega) | (intro hx; omega) | rfl)
              simp only [Act.put, List.setIfInBounds_toArray, List.set_cons_zero, List.set_cons_succ]
              refine q_run (v := .int .i64 F) (by rfl) ?_ ?_
              · (intro w1 hC; obtain ⟨⟨t0, t1⟩, ⟨x0, x1, x2, x3⟩, -⟩ := hC; go_simp; first | done | (simp; done) | (simp [*]; done) | omega | (simp; omega) | (rw [IntKind.wrap_i64]; omega) | (intro hx; omega) | rfl)
              simp only [Act.put, List.setIfInBounds_toArray, List.set_cons_zero, List.set_cons_succ]
              refine q_run (v := .pointer (some ⟨w.heap.size, 1, none⟩)) (by rfl) ?_ ?_
              · (intro w1 hC; obtain ⟨⟨t0, t1⟩, ⟨x0, x1, x2, x3⟩, -⟩ := hC; go_simp; first | done | (simp; done) | (simp [*]; done) | omega | (simp; omega) | (rw [IntKind.wrap_i64]; omega) | (intro hx; omega) | rfl)
              simp only [Act.put, List.setIfInBounds_toArray, List.set_cons_zero, List.set_cons_succ]
              refine q_run (v := .slice (some ⟨b, off, none⟩) l.length c) (by rfl) ?_ ?_
              · (intro w1 hC; obtain ⟨⟨t0, t1⟩, ⟨x0, x1, x2, x3⟩, -⟩ := hC; go_simp; first | done | (simp; done) | (simp [*]; done) | omega | (simp; omega) | (rw [IntKind.wrap_i64]; omega) | (intro hx; omega) | rfl)
              simp only [Act.put, List.setIfInBounds_toArray, List.set_cons_zero, List.set_cons_succ]
              refine q_run (v := .int .i64 (k : Int)) (by rfl) ?_ ?_
              · (intro w1 hC; obtain ⟨⟨t0, t1⟩, ⟨x0, x1, x2, x3⟩, -⟩ := hC; go_simp; first | done | (simp; done) | (simp [*]; done) | omega | (simp; omega) | (rw [IntKind.wrap_i64]; omega) | (intro hx; omega) | rfl)
              simp only [Act.put, List.setIfInBounds_toArray, List.set_cons_zero, List.set_cons_succ]
              refine q_run (v := .pointer (some ⟨b, off + k * 4, none⟩)) (by rfl) ?_ ?_
              · (intro w1 hC; obtain ⟨⟨t0, t1⟩, ⟨x0, x1, x2, x3⟩, -⟩ := hC; go_simp; first | done | (simp; done) | (simp [*]; done) | omega | (simp; omega) | (rw [IntKind.wrap_i64]; omega) | (intro hx; omega) | rfl)
              simp only [Act.put, List.setIfInBounds_toArray, List.set_cons_zero, List.set_cons_succ]
              refine q_run (v := .agg #[.int .u64 (hI px), .int .u64 (lI px), .int .i64 pn, .int .i64 ph]) (by rfl) ?_ ?_
              · (intro w1 hC; obtain ⟨⟨t0, t1⟩, ⟨x0, x1, x2, x3⟩, -⟩ := hC; go_simp; first | done | (simp; done) | (simp [*]; done) | omega | (simp; omega) | (rw [IntKind.wrap_i64]; omega) | (intro hx; omega) | rfl)
              simp only [Act.put, List.setIfInBounds_toArray, List.set_cons_zero, List.set_cons_succ]
              refine q_call (v := .int .i64 ce) (f := 30) (args := #[.int .i64 F, .agg #[.int .u64 (hI px), .int .u64 (lI px), .int .i64 pn, .int .i64 ph]]) (by rfl) ?_ ?_ ?_
              · (intro w1 hC; clear hC; go_simp)
              · exact fun w1 hC => (KC w1).mono fun e w' ⟨he, hb⟩ => ⟨he, hC.below hb⟩
              simp only [Act.put, List.setIfInBounds_toArray, List.set_cons_zero, List.set_cons_succ]
              refine q_run (v := .int .i64 ce) (by rfl) ?_ ?_
              · (intro w1 hC; obtain ⟨⟨t0, t1⟩, ⟨x0, x1, x2, x3⟩, -⟩ := hC; go_simp; first | done | (simp; done) | (simp [*]; done) | omega | (simp; omega) | (rw [IntKind.wrap_i64]; omega) | (intro hx; omega) | rfl)
              simp only [Act.put, List.setIfInBounds_toArray, List.set_cons_zero, List.set_cons_succ]
              refine wpQuiet_nil ?_
              simp only [putAll, Act.put, List.setIfInBounds_toArray, List.set_cons_zero, List.set_cons_succ]
            case fin =>
              intro W hC
              simp only [putAll, Act.put, List.setIfInBounds_toArray, List.set_cons_zero, List.set_cons_succ]
              dsimp only [List.drop]
              have HT := hidR hC.1
              have HB := hidR hC.2.2
              clear hC HC KC t0 t1
              have mk : IntKind.i64.wrap ((k : Int) + 1) = (k : Int) + 1 := by rw [IntKind.wrap_i64]; omega
              by_cases hce : ce = 0
              · subst hce
                go_wp2
                go_roundw
                case rel => exact ⟨k + 1, by omega, by go_num, hidR (by rw [← HG.out, HD.out]; simp), HT, HB⟩
                case measure => simp [intOf]; omega
              · have hn : (ce != 0) = true := by simp [hce]
                have HE : Hid (TabE F l ce) := hidR (by
                  have e1 : rtsE F l = ce := by rw [HRE.out, ← HG.out, HD.out, if_neg hce]
                  unfold TabE
                  rw [e1]
                  exact ⟨fun _ => rfl, fun h => absurd h hce⟩)
                clear HG HD HRE HT
                go_wp2
                go_ret
                exact ⟨⟨ce, HE.out, rfl⟩, HB.out⟩
        · have hd : ¬ k < l.length := by omega
          have HZ : Hid (rtsE F l = 0) := hidR (by rw [HRE.out, ← HG.out, List.drop_eq_nil_of_le (by omega)]; rfl)
          clear HG HRE
          go_wp2_with fail
          go_loopw [5] (fun i wr => ∃ k1 p : Nat, k1 = p + 1 ∧ p ≤ l.length ∧ i = .int .i64 k1 ∧ Hid (∀ (a : Nat) (h : a + 1 < l.length), a < p → pcmpZ l[a].1.1 l[a].1.2 l[a + 1].1.1 l[a + 1].1.2 < 0) ∧ Hid (AtT wr w.heap.size F (.slice ao l.length c)) ∧ Hid (Below w.heap.size w wr)) (fun i _ => l.length - (intOf i).toNat)
          case atStart => exact ⟨1, 0, rfl, by omega, rfl, hidR fun a h g => by omega, HT, HB⟩
          case round =>
            clear HT HB t0 t1
            obtain ⟨k1, p, hkp, hp, rfl, HG, HT, HB⟩ := hrel
            obtain ⟨t0, t1⟩ := HT.out
            by_cases hlt : (k1 : Int) < (l.length : Int)
            · have hks : k1 < l.length := by omega
              have hps : p < l.length := by omega
              rcases HV.out with e | ⟨b, off, rfl, hc⟩
              · rw [e] at hks; simp at hks
              · obtain ⟨x0, x1, x2, x3⟩ := rwr_cells hc p hps
                obtain ⟨y0, y1, y2, y3⟩ := rwr_cells hc k1 hks
                have HC := hidR (C14.drew ⟨HT.out, ⟨keepc HB.out x0, keepc HB.out x1, keepc HB.out x2, keepc HB.out x3⟩, ⟨keepc HB.out y0, keepc HB.out y1, keepc HB.out y2, keepc HB.out y3⟩, HB.out⟩ : C14 w F (.slice (some ⟨b, off, none⟩) l.length c) b (off + p * 4) (off + k1 * 4) l[p].1.1 l[p].1.2 l[p].2 l[k1].1.1 l[k1].1.2 l[k1].2 wr.drew)
                have KZ := fun w => rpcmp_any l[p].1.1 l[p].1.2 l[k1].1.1 l[k1].1.2 w
                have HD : Hid (∀ z, z = pcmpZ l[p].1.1 l[p].1.2 l[k1].1.1 l[k1].1.2 → (z < 0 → ∀ (a : Nat) (h : a + 1 < l.length), a < k1 → pcmpZ l[a].1.1 l[a].1.2 l[a + 1].1.1 l[a + 1].1.2 < 0) ∧ (¬ z < 0 → ¬ Adj l)) := hidR (by
                  rintro z rfl
                  subst hkp
                  refine ⟨fun hz a h ha => ?_, fun hz hA => hz (hA p hks)⟩
                  rcases Nat.lt_or_eq_of_le (Nat.le_of_lt_succ ha) with q | q
                  · exact HG.out a h q
                  · subst q; exact hz)
                clear x0 x1 x2 x3 y0 y1 y2 y3 hc HV HT HB HG
                have HD2 := hidR (HD.out _ rfl)
                clear HD
                revert KZ HD2 HC
                generalize pcmpZ l[p].1.1 l[p].1.2 l[k1].1.1 l[k1].1.2 = cz
                generalize l[p].1.1 = px
                generalize l[p].1.2 = pn
                generalize l[p].2 = ph
                generalize l[k1].1.1 = qx
                generalize l[k1].1.2 = qn
                generalize l[k1].2 = qh
                intro HC KZ HD2
                have ms : IntKind.i64.wrap ((k1 : Int) - 1) = (p : Int) := by rw [IntKind.wrap_i64]; omega
                clear hkp
                go_wp2_with fail
                refine qp_region2 15 (qpOk 15 15 (by decide) (fun N => by kernel_rfl) (by kernel_rfl) (by kernel_rfl) (by kernel_rfl) (by kernel_rfl)) (C := C14 w F (.slice (some ⟨b, off, none⟩) l.length c) b (off + p * 4) (off + k1 * 4) px pn ph qx qn qh) [some 39, some 40, some 41, some 42, some 43, some 44, some 45, some 46, some 47, some 48, some 49, some 50, some 51, some 52, some 53] [.pointer (some ⟨w.heap.size, 1, none⟩), .slice (some ⟨b, off, none⟩) l.length c, .int .i64 (k1 : Int), .int .i64 (p : Int), .pointer (some ⟨b, off + p * 4, none⟩), .pointer (some ⟨b, off + p * 4, none⟩), .agg #[.int .u64 (hI px), .int .u64 (lI px), .int .i64 pn], .pointer (some ⟨w.heap.size, 1, none⟩), .slice (some ⟨b, off, none⟩) l.length c, .int .i64 (k1 : Int), .pointer (some ⟨b, off + k1 * 4, none⟩), .pointer (some ⟨b, off + k1 * 4, none⟩), .agg #[.int .u64 (hI qx), .int .u64 (lI qx), .int .i64 qn], .int .i64 cz, .bool (decide (0 ≤ cz))] (by kernel_rfl) HC.out ?walk ?fin
                case walk =>
                  dsimp only [List.take]
                  clear HC HD2 t0 t1
                  refine q_run (v := .pointer (some ⟨w.heap.size, 1, none⟩)) (by rfl) ?_ ?_
                  · (intro w1 hC; obtain ⟨⟨t0, t1⟩, ⟨x0, x1, x2, -⟩, ⟨y0, y1, y2, -⟩, -⟩ := hC; go_simp; first | done | (simp; done) | (simp [*]; done) | omega | (simp; omega) | (rw [IntKind.wrap_i64]; omega) | (intro hx; omega) | rfl)
                  simp only [Act.put, List.setIfInBounds_toArray, List.set_cons_zero, List.set_cons_succ]
                  refine q_run (v := .slice (some ⟨b, off, none⟩) l.length c) (by rfl) ?_ ?_
                  · (intro w1 hC; obtain ⟨⟨t0, t1⟩, ⟨x0, x1, x2, -⟩, ⟨y0, y1, y2, -⟩, -⟩ := hC; go_simp; first | done | (simp; done) | (simp [*]; done) | omega | (simp; omega) | (rw [IntKind.wrap_i64]; omega) | (intro hx; omega) | rfl)
                  simp only [Act.put, List.setIfInBounds_toArray, List.set_cons_zero, List.set_cons_succ]
                  refine q_run (v := .int .i64 (k1 : Int)) (by rfl) ?_ ?_
                  · (intro w1 hC; obtain ⟨⟨t0, t1⟩, ⟨x0, x1, x2, -⟩, ⟨y0, y1, y2, -⟩, -⟩ := hC; go_simp; first | done | (simp; done) | (simp [*]; done) | omega | (simp; omega) | (rw [IntKind.wrap_i64]; omega) | (intro hx; omega) | rfl)
                  simp only [Act.put, List.setIfInBounds_toArray, List.set_cons_zero, List.set_cons_succ]
                  refine q_run (v := .int .i64 (p : Int)) (by rfl) ?_ ?_
                  · (intro w1 hC; obtain ⟨⟨t0, t1⟩, ⟨x0, x1, x2, -⟩, ⟨y0, y1, y2, -⟩, -⟩ := hC; go_simp; first | done | (simp; done) | (simp [*]; done) | omega | (simp; omega) | (rw [IntKind.wrap_i64]; omega) | (intro hx; omega) | rfl)
                  simp only [Act.put, List.setIfInBounds_toArray, List.set_cons_zero, List.set_cons_succ]
                  refine q_run (v := .pointer (some ⟨b, off + p * 4, none⟩)) (by rfl) ?_ ?_
                  · (intro w1 hC; obtain ⟨⟨t0, t1⟩, ⟨x0, x1, x2, -⟩, ⟨y0, y1, y2, -⟩, -⟩ := hC; go_simp; first | done | (simp; done) | (simp [*]; done) | omega | (simp; omega) | (rw [IntKind.wrap_i64]; omega) | (intro hx; omega) | rfl)
                  simp only [Act.put, List.setIfInBounds_toArray, List.set_cons_zero, List.set_cons_succ]
                  refine q_run (v := .pointer (some ⟨b, off + p * 4, none⟩)) (by rfl) ?_ ?_
                  · (intro w1 hC; obtain ⟨⟨t0, t1⟩, ⟨x0, x1, x2, -⟩, ⟨y0, y1, y2, -⟩, -⟩ := hC; go_simp; first | done | (simp; done) | (simp [*]; done) | omega | (simp; omega) | (rw [IntKind.wrap_i64]; omega) | (intro hx; omega) | rfl)
                  simp only [Act.put, List.setIfInBounds_toArray, List.set_cons_zero, List.set_cons_succ]
                  refine q_run (v := .agg #[.int .u64 (hI px), .int .u64 (lI px), .int .i64 pn]) (by rfl) ?_ ?_
                  · (intro w1 hC; obtain ⟨⟨t0, t1⟩, ⟨x0, x1, x2, -⟩, ⟨y0, y1, y2, -⟩, -⟩ := hC; go_simp; first | done | (simp; done) | (simp [*]; done) | omega | (simp; omega) | (rw [IntKind.wrap_i64]; omega) | (intro hx; omega) | rfl)
                  simp only [Act.put, List.setIfInBounds_toArray, List.set_cons_zero, List.set_cons_succ]
                  refine q_run (v := .pointer (some ⟨w.heap.size, 1, none⟩)) (by rfl) ?_ ?_
                  · (intro w1 hC; obtain ⟨⟨t0, t1⟩, ⟨x0, x1, x2, -⟩, ⟨y0, y1, y2, -⟩, -⟩ := hC; go_simp; first | done | (simp; done) | (simp [*]; done) | omega | (simp; omega) | (rw [IntKind.wrap_i64]; omega) | (intro hx; omega) | rfl)
                  simp only [Act.put, List.setIfInBounds_toArray, List.set_cons_zero, List.set_cons_succ]
                  refine q_run (v := .slice (some ⟨b, off, none⟩) l.length c) (by rfl) ?_ ?_
                  · (intro w1 hC; obtain ⟨⟨t0, t1⟩, ⟨x0, x1, x2, -⟩, ⟨y0, y1, y2, -⟩, -⟩ := hC; go_simp; first | done | (simp; done) | (simp [*]; done) | omega | (simp; omega) | (rw [IntKind.wrap_i64]; omega) | (intro hx; omega) | rfl)
                  simp only [Act.put, List.setIfInBounds_toArray, List.set_cons_zero, List.set_cons_succ]
                  refine q_run (v := .int .i64 (k1 : Int)) (by rfl) ?_ ?_
                  · (intro w1 hC; obtain ⟨⟨t0, t1⟩, ⟨x0, x1, x2, -⟩, ⟨y0, y1, y2, -⟩, -⟩ := hC; go_simp; first | done | (simp; done) | (simp [*]; done) | omega | (simp; omega) | (rw [IntKind.wrap_i64]; omega) | (intro hx; omega) | rfl)
                  simp only [Act.put, List.setIfInBounds_toArray, List.set_cons_zero, List.set_cons_succ]
                  refine q_run (v := .pointer (some ⟨b, off + k1 * 4, none⟩)) (by rfl) ?_ ?_
                  · (intro w1 hC; obtain ⟨⟨t0, t1⟩, ⟨x0, x1, x2, -⟩, ⟨y0, y1, y2, -⟩, -⟩ := hC; go_simp; first | done | (simp; done) | (simp [*]; done) | omega | (simp; omega) | (rw [IntKind.wrap_i64]; omega) | (intro hx; omega) | rfl)
                  simp only [Act.put, List.setIfInBounds_toArray, List.set_cons_zero, List.set_cons_succ]
                  refine q_run (v := .pointer (some ⟨b, off + k1 * 4, none⟩)) (by rfl) ?_ ?_
                  · (intro w1 hC; obtain ⟨⟨t0, t1⟩, ⟨x0, x1, x2, -⟩, ⟨y0, y1, y2, -⟩, -⟩ := hC; go_simp; first | done | (simp; done) | (simp [*]; done) | omega | (simp; omega) | (rw [IntKind.wrap_i64]; omega) | (intro hx; omega) | rfl)
                  simp only [Act.put, List.setIfInBounds_toArray, List.set_cons_zero, List.set_cons_succ]
                  refine q_run (v := .agg #[.int .u64 (hI qx), .int .u64 (lI qx), .int .i64 qn]) (by rfl) ?_ ?_
                  · (intro w1 hC; obtain ⟨⟨t0, t1⟩, ⟨x0, x1, x2, -⟩, ⟨y0, y1, y2, -⟩, -⟩ := hC; go_simp; first | done | (simp; done) | (simp [*]; done) | omega | (simp; omega) | (rw [IntKind.wrap_i64]; omega) | (intro hx; omega) | rfl)
                  simp only [Act.put, List.setIfInBounds_toArray, List.set_cons_zero, List.set_cons_succ]
                  refine q_call (v := .int .i64 cz) (f := 31) (args := #[.agg #[.int .u64 (hI px), .int .u64 (lI px), .int .i64 pn], .agg #[.int .u64 (hI qx), .int .u64 (lI qx), .int .i64 qn]]) (by rfl) ?_ ?_ ?_
                  · (intro w1 hC; clear hC; go_simp)
                  · exact fun w1 hC => (KZ w1).mono fun e w' ⟨he, hb⟩ => ⟨he, hC.below hb⟩
                  simp only [Act.put, List.setIfInBounds_toArray, List.set_cons_zero, List.set_cons_succ]
                  refine q_run (v := .bool (decide (0 ≤ cz))) (by rfl) ?_ ?_
                  · (intro w1 hC; obtain ⟨⟨t0, t1⟩, ⟨x0, x1, x2, -⟩, ⟨y0, y1, y2, -⟩, -⟩ := hC; go_simp; first | done | (simp; done) | (simp [*]; done) | omega | (simp; omega) | (rw [IntKind.wrap_i64]; omega) | (intro hx; omega) | rfl)
                  simp only [Act.put, List.setIfInBounds_toArray, List.set_cons_zero, List.set_cons_succ]
                  refine wpQuiet_nil ?_
                  simp only [putAll, Act.put, List.setIfInBounds_toArray, List.set_cons_zero, List.set_cons_succ]
                case fin =>
                  intro W hC
                  simp only [putAll, Act.put, List.setIfInBounds_toArray, List.set_cons_zero, List.set_cons_succ]
                  dsimp only [List.drop]
                  have HT := hidR hC.1
                  have HB := hidR hC.2.2.2
                  clear hC HC KZ t0 t1 ms
                  have mk : IntKind.i64.wrap ((k1 : Int) + 1) = (k1 : Int) + 1 := by rw [IntKind.wrap_i64]; omega
                  by_cases hz : cz < 0
                  · have hz' : ¬ 0 ≤ cz := by omega
                    have HG := hidR (HD2.out.1 hz)
                    clear HD2
                    go_wp2
                    go_roundw
                    case rel => exact ⟨k1 + 1, k1, rfl, by omega, by go_num, HG, HT, HB⟩
                    case measure => simp [intOf]; omega
                  · have hz' : 0 ≤ cz := by omega
                    have HE : Hid (TabE F l 19) := hidR ⟨fun h => absurd HZ.out h, fun _ => .inr ⟨HD2.out.2 (by omega), rfl⟩⟩
                    clear HD2 HT HZ
                    go_wp2
                    go_ret
                    exact ⟨⟨19, HE.out, rfl⟩, HB.out⟩
            · have HE : Hid (TabE F l 0) := hidR ⟨fun h => absurd HZ.out h, fun _ => .inl ⟨fun a h => HG.out a h (by omega), rfl⟩⟩
              have hd : ¬ k1 < l.length := by omega
              clear HZ HG HT
              go_wp2
              go_ret
              exact ⟨⟨0, HE.out, rfl⟩, HB.out⟩
end Go.Proofs.YtpiicdpipjjenaaGreatDoor
namespace Go.Proofs.YtpiicdpipjjenaaGreatDoor
open Go.RowKit
set_option linter.unusedSimpArgs false
set_option linter.unusedVariables false

def bL9 (l : List UInt8) : ByteArray := ⟨l.toArray⟩
end Go.Proofs.YtpiicdpipjjenaaGreatDoor
namespace Go.Proofs.YtpiicdpipjjenaaGreatDoor
open Go.RowKit
set_option linter.unusedSimpArgs false
set_option linter.unusedVariables false

def Row (w : World) (size : Nat) (v : Value) (n : Nat) (xs : List Value) : Prop :=
  xs.length = n * size ∧ ∃ ao c, v = .slice ao n c ∧ n ≤ c ∧ ((ao = none ∧ c = 0 ∧ n = 0) ∨ ∃ b off, ao = some ⟨b, off, none⟩ ∧ ∀ j u, xs[j]? = some u → w.cell? ⟨b, off + j, none⟩ = some u)
theorem addA (g o j : Nat) : (⟨g, o, none⟩ : Addr).add j = ⟨g, o + j, none⟩ := by unfold Addr.add; split <;> simp_all
theorem Row.form {w : World} {size n : Nat} {v : Value} {xs : List Value} (h : Row w size v n xs) : ∃ ao c, v = .slice ao n c ∧ n ≤ c := by
  obtain ⟨-, ao, c, e, hc, -⟩ := h
  exact ⟨ao, c, e, hc⟩
theorem own_row {w : World} {base e size n : Nat} {v : Value} {xs : List Value} (h : w.ownsRow base e size v n xs) : Row w size v n xs := by
  refine ⟨h.1, ?_⟩
  rcases h.2 with ⟨e0, e1⟩ | ⟨g, cap, cur, e0, hb, hg, hnc, hm, hs, ht⟩
  · subst e1
    exact ⟨none, 0, e0, Nat.le_refl _, .inl ⟨rfl, rfl, rfl⟩⟩
  · refine ⟨some ⟨g, 0, none⟩, cap, e0, hnc, .inr ⟨g, 0, rfl, ?_⟩⟩
    intro j u hj
    have f := h.cells (g := g) (by rw [e0]; rfl) j u hj
    rw [addA, Nat.zero_add] at f
    rw [Nat.zero_add]
    exact f
theorem own_form {w : World} {base e size n : Nat} {v : Value} {xs : List Value} (h : w.ownsRow base e size v n xs) : ∃ ao c, v = .slice ao n c := by
  rcases h.2 with ⟨e, h⟩ | ⟨g, cap, cur, e, _⟩
  · exact ⟨none, 0, by rw [h]; exact e⟩
  · exact ⟨_, _, e⟩
theorem Row.below {w w' : World} {size n : Nat} {v : Value} {xs : List Value} (h : Row w size v n xs) (hb : Below w.heap.size w w') : Row w' size v n xs := by
  obtain ⟨hl, ao, c, e, hc, h⟩ := h
  refine ⟨hl, ao, c, e, hc, ?_⟩
  rcases h with h | ⟨b, off, e, h⟩
  · exact .inl h
  · exact .inr ⟨b, off, e, fun j u hj => keepc hb (h j u hj)⟩
end Go.Proofs.YtpiicdpipjjenaaGreatDoor
namespace Go.Proofs.YtpiicdpipjjenaaGreatDoor
open Go.RowKit
set_option linter.unusedSimpArgs false
set_option linter.unusedVariables false

def nib (x : BitVec 128) (k : Nat) : Nat := (lv (x >>> (124 - 4 * k))).toNat % 16
def chN (d : Nat) : Nat := if d < 10 then 48 + d else 87 + d
theorem new_cell (W : World) (o : Obj) (cs : Array Value) (t : TypeId) (j : Nat) : ((W.alloc o).alloc (.cells cs t)).cell? ⟨W.heap.size + 1, j, none⟩ = cs[j]? := by
  have h : ((W.alloc o).alloc (.cells cs t)).heap[W.heap.size + 1]? = some (.cells cs t) := by
    show ((W.heap.push o).push (.cells cs t))[W.heap.size + 1]? = _
    rw [Array.getElem?_push, if_pos (by simp)]
  unfold World.cell?
  rw [h]
  simp
theorem new_frozen (W : World) (o : Obj) (cs : Array Value) (t : TypeId) (j : Nat) : ((W.alloc o).alloc (.cells cs t)).frozen? ⟨W.heap.size + 1, j, none⟩ = false := by
  simp [go_sem]

theorem set_same {W : World} {B k : Nat} {u v : Value} (h : W.cell? ⟨B, k, none⟩ = some u) : (W.setCell ⟨B, k, none⟩ v).cell? ⟨B, k, none⟩ = some v := by
  simp [go_sem, h]
theorem set_other {W : World} {B k j : Nat} {v : Value} (h : ¬ k = j) : (W.setCell ⟨B, k, none⟩ v).cell? ⟨B, j, none⟩ = W.cell? ⟨B, j, none⟩ := by
  simp [go_sem, h]
end Go.Proofs.YtpiicdpipjjenaaGreatDoor
namespace Go.Proofs.YtpiicdpipjjenaaGreatDoor
open Go.RowKit
set_option linter.unusedSimpArgs false
set_option linter.unusedVariables false

def cellsT (x : BitVec 128) (k : Nat) : List Value := (List.range k).map fun j => Value.int .u8 (chN (nib x j) : Int)
theorem own_below {base e size n : Nat} {v : Value} {xs : List Value} {W w' : World} (hb : Below W.heap.size W w') (h : W.ownsRow base e size v n xs) : w'.ownsRow base e size v n xs := by
  refine h.kept (row := none) ⟨hb.os, hb.tape, hb.output, hb.size, fun k hk _ => hb.block k hk⟩ ?_
  cases v.ownBlock with
  | none => exact Or.inl rfl
  | some a => exact Or.inr (by simp)

theorem app_keep {w W w1 : World} {x : BitVec 128} {e size n : Nat} {v : Value} {xs : List Value} (o : W.ownsRow (w.heap.size + 1) e size v n xs) (g : W.grownBy w1 v.ownBlock)
    (k1 : W.cell? ⟨w.heap.size, 0, none⟩ = some (.int .u64 (hI x))) (k2 : W.cell? ⟨w.heap.size, 1, none⟩ = some (.int .u64 (lI x))) (k9 : Below w.heap.size w W) :
    w1.cell? ⟨w.heap.size, 0, none⟩ = some (.int .u64 (hI x)) ∧ w1.cell? ⟨w.heap.size, 1, none⟩ = some (.int .u64 (lI x)) ∧ Below w.heap.size w w1 := by
  have hne : some w.heap.size ≠ v.ownBlock := by
    intro h
    have := (o.lt _ h.symm).1
    omega
  refine ⟨g.cell k1 hne, g.cell k2 hne, k9.grown g k9.size ?_⟩
  intro j hj
  have := (o.lt _ hj).1
  omega
theorem al_keep {w W : World} {x : BitVec 128} (o : Obj)
    (k1 : W.cell? ⟨w.heap.size, 0, none⟩ = some (.int .u64 (hI x))) (k2 : W.cell? ⟨w.heap.size, 1, none⟩ = some (.int .u64 (lI x))) (k9 : Below w.heap.size w W) :
    (W.alloc o).cell? ⟨w.heap.size, 0, none⟩ = some (.int .u64 (hI x)) ∧ (W.alloc o).cell? ⟨w.heap.size, 1, none⟩ = some (.int .u64 (lI x)) ∧ Below w.heap.size w (W.alloc o) :=
  ⟨keepc (bl1 W o) k1, keepc (bl1 W o) k2, keepb (bl1 W o) k9⟩
end Go.Proofs.YtpiicdpipjjenaaGreatDoor
namespace Go.Proofs.YtpiicdpipjjenaaGreatDoor
open Go.RowKit
set_option linter.unusedSimpArgs false
set_option linter.unusedVariables false

def lnT (F : Int) (r : Rte) : List UInt8 := (ptxD F r.1.1 r.1.2).data.toList ++ [32] ++ decL r.2.toNat ++ [10]
def tx5 (F : Int) : List Rte → List UInt8
  | [] => []
  | r :: l => lnT F r ++ tx5 F l
theorem tx5_app (F : Int) : ∀ l m, tx5 F (l ++ m) = tx5 F l ++ tx5 F m
  | [], m => rfl
  | r :: l, m => by show lnT F r ++ tx5 F (l ++ m) = lnT F r ++ tx5 F l ++ tx5 F m; rw [tx5_app F l m, List.append_assoc]
theorem ptxD_size (F : Int) (x : BitVec 128) (n : Int) : (ptxD F x n).size ≤ 121 := by
  unfold ptxD
  split
  · rename_i h
    obtain ⟨hf, hr, hr2⟩ := check_bd F x n h
    have h1 := (text2_size F x hr2).2
    have h2 := decL_len9 n.toNat
    rw [ByteArray.size_append, ByteArray.size_append]
    have h3 : (⟨(decL n.toNat).toArray⟩ : ByteArray).size = (decL n.toNat).length := rfl
    have h4 : (⟨#[47]⟩ : ByteArray).size = 1 := rfl
    omega
  · decide
theorem lnT_len (F : Int) (r : Rte) : (lnT F r).length ≤ 143 := by
  unfold lnT
  have h1 := ptxD_size F r.1.1 r.1.2
  have h2 := decL_len9 r.2.toNat
  have h3 : (ptxD F r.1.1 r.1.2).data.toList.length = (ptxD F r.1.1 r.1.2).size := by rw [Array.length_toList]; rfl
  simp only [List.length_append, List.length_singleton, h3]
  omega
theorem tx5_len (F : Int) : ∀ l, (tx5 F l).length ≤ 143 * l.length
  | [] => by simp [tx5]
  | r :: l => by
    have h1 := lnT_len F r
    have h2 := tx5_len F l
    show (lnT F r ++ tx5 F l).length ≤ _
    rw [List.length_append, List.length_cons]
    omega
theorem Tryz.infoU5 : (Tryz.prog.info? 5).map (fun i => (i.zero, i.size, i.bytes)) = some (some (.int .u8 0), 1, 1) := by kernel_rfl
theorem bytes_back5 (w : World) (g cap : Nat) (l : List UInt8) (hc : ∀ j, j < l.length → w.cell? ⟨g, j, none⟩ = some (.int .u8 ((l.getD j 0).toNat : Int))) :
    (convert 53 9 (.slice (some ⟨g, 0, none⟩) l.length cap)).run Tryz.prog w = .ok (.string ⟨l.toArray⟩) w := by
  refine run_convert_bytes_back (P := Tryz.prog) w 53 9 5 ⟨g, 0, none⟩ cap l Tryz.underlying53 Tryz.underlying5 Tryz.underlying9 ?_
  intro j hj
  have ea : (⟨g, 0, none⟩ : Addr).add j = ⟨g, j, none⟩ := by cases j <;> simp [Addr.add]
  rw [ea, hc j hj]
  simp [List.getD, hj]
theorem own_conv5 {W : World} {base : Nat} {v : Value} {l : List UInt8} (h : W.ownsRow base 5 1 v l.length (Lib.byteCells l)) : (convert 53 9 v).run Tryz.prog W = .ok (.string (bL9 l)) W := by
  rcases h.2 with ⟨rfl, h0⟩ | ⟨b, cp, cur, rfl, -⟩
  · have hl0 : l = [] := List.eq_nil_of_length_eq_zero h0
    subst hl0
    rw [run_convert_bytes_string W 53 9 5 _ _ _ Tryz.underlying53 Tryz.underlying5 Tryz.underlying9]
    simp [Conv.bytesToString]
    rfl
  · have hc : ∀ j, j < l.length → W.cell? ⟨b, j, none⟩ = some (.int .u8 ((l.getD j 0).toNat : Int)) := fun j hj => by
      have := h.cellAt j (by omega)
      rw [this]
      simp [Lib.byteCells, List.getD, hj]
    exact bytes_back5 W b cp l hc
def CX5 (w : World) (F : Int) (v : Value) (b o : Nat) (x : BitVec 128) (n h : Int) (base : Nat) (vb : Value) (B : List UInt8) (W : World) : Prop := C8 w F v b o x n h W ∧ W.ownsRow base 5 1 vb B.length (Lib.byteCells B)
theorem CX5.below {w W W' : World} {F : Int} {v : Value} {b o : Nat} {x : BitVec 128} {n h : Int} {base : Nat} {vb : Value} {B : List UInt8} (k : CX5 w F v b o x n h base vb B W) (hb : Below W.heap.size W W') : CX5 w F v b o x n h base vb B W' := ⟨k.1.below hb, own_below hb k.2⟩
theorem rts_hop {F : Int} {l : List Rte} (h : rtsE F l = 0) : fam F = true ∧ l.length ≤ 1048576 ∧ ∀ r ∈ l, 1 ≤ r.2 ∧ r.2 ≤ 65535 := by
  unfold rtsE at h
  by_cases hf : fam F = true
  · rw [if_pos hf] at h
    by_cases hl : 1048576 < l.length
    · rw [if_pos hl] at h; omega
    · rw [if_neg hl] at h
      refine ⟨hf, by omega, ?_⟩
      have key : ∀ l : List Rte, rtsG F l = 0 → ∀ r ∈ l, 1 ≤ r.2 ∧ r.2 ≤ 65535 := by
        intro l
        induction l with
        | nil => intro _ r hr; cases hr
        | cons a l ih =>
          intro h r hr
          have h' : (if rteE F a = 0 then rtsG F l else rteE F a) = 0 := h
          by_cases c : rteE F a = 0
          · rw [if_pos c] at h'
            rcases List.mem_cons.mp hr with q | q
            · rw [q]
              unfold rteE at c
              by_cases c1 : checkE F a.1.1 a.1.2 = 0
              · rw [if_pos c1] at c
                by_cases c2 : hopB a.2 = true
                · unfold hopB at c2
                  simpa using c2
                · rw [if_neg c2] at c; omega
              · rw [if_neg c1] at c; exact absurd c c1
            · exact ih h' r q
          · rw [if_neg c] at h'; exact absurd h' c
      exact key l h
  · rw [if_neg hf] at h; omega
end Go.Proofs.YtpiicdpipjjenaaGreatDoor
