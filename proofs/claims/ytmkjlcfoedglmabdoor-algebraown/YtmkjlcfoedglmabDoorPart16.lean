/-
  Part 16 of the proof: 2 texts, one behind the other.
-/
import Derived.Test.YtmkjlcfoedglmabDoorPart15
import Derived.Test.YtmkjlcfoedglmabDoorPart9
import Derived.Test.YtmkjlcfoedglmabDoorPart3
import Derived.Test.YtmkjlcfoedglmabDoorPart7
/-
  What the calls of turnpikeref5's Checked and Check do.
-/
namespace Go.Proofs.YtmkjlcfoedglmabDoor
open Go.RowKit
set_option linter.unusedSimpArgs false
set_option linter.unusedVariables false

set_option maxHeartbeats 2000000 in
theorem rchecked_any (F : Int) (x : BitVec 128) (n h : Int) (w : World) :
    Calls Tryd.prog 34 #[.int .i64 F, .agg #[.int .u64 (hI x), .int .u64 (lI x), .int .i64 n, .int .i64 h]] w fun e w' => e = .returned (.int .i64 (rteE F ((x, n), h))) ∧ Below w.heap.size w w' := by
  have KC := fun w => rcheck_any F x n w
  unfold rteE hopB
  dsimp only
  revert KC
  generalize checkE F x n = ce
  intro KC
  obtain ⟨p0, p1, p2, p3⟩ := atr_new w w.heap.size x n h 50 rfl
  have A1 := hidR (atr_new w w.heap.size x n h 50 rfl)
  have b1 := hidR (bl1 w (.cells #[.int .u64 (hI x), .int .u64 (lI x), .int .i64 n, .int .i64 h] 50))
  obtain ⟨re, hre⟩ : ∃ re, re = if ce = 0 then if (decide (1 ≤ h) && decide (h ≤ 65535)) = true then (0 : Int) else 15 else ce := ⟨_, rfl⟩
  rw [← hre]
  have HRE := hidR hre
  clear hre
  go_enter Tryd.func34, Tryd.ntmps34
  go_wp2_with fail
  refine (KC _).mono ?_
  rintro e w1 ⟨rfl, hb⟩
  have kB := keepb hb b1.out
  obtain ⟨q0, q1, q2, q3⟩ := A1.out.below hb
  clear KC hb A1 b1 p0 p1 p2 p3
  by_cases hc : ce = 0
  · subst hc
    by_cases g1 : h < 1
    · have HE : Hid (re = 15) := hidR (by rw [HRE.out, if_pos rfl, if_neg (by simp; omega)])
      clear HRE
      go_wp2
      go_ret
      exact ⟨by rw [HE.out]; rfl, kB⟩
    · by_cases g2 : 65535 < h
      · have HE : Hid (re = 15) := hidR (by rw [HRE.out, if_pos rfl, if_neg (by simp; omega)])
        clear HRE
        go_wp2
        go_ret
        exact ⟨by rw [HE.out]; rfl, kB⟩
      · have HE : Hid (re = 0) := hidR (by rw [HRE.out, if_pos rfl, if_pos (by simp; omega)])
        clear HRE
        go_wp2
        go_ret
        exact ⟨by rw [HE.out]; rfl, kB⟩
  · have hn : (ce == 0) = false := by simp [hc]
    have HE : Hid (re = ce) := hidR (by rw [HRE.out, if_neg hc])
    clear HRE
    go_wp2
    go_ret
    exact ⟨by rw [HE.out]; rfl, kB⟩
/-- A table, a route of its row. -/
def C8 (w : World) (F : Int) (v : Value) (b o : Nat) (x : BitVec 128) (n h : Int) (W : World) : Prop := AtT W w.heap.size F v ∧ (W.cell? ⟨b, o, none⟩ = some (.int .u64 (hI x)) ∧ W.cell? ⟨b, o + 1, none⟩ = some (.int .u64 (lI x)) ∧ W.cell? ⟨b, o + 2, none⟩ = some (.int .i64 n) ∧ W.cell? ⟨b, o + 3, none⟩ = some (.int .i64 h)) ∧ Below w.heap.size w W
theorem C8.below {w W W' : World} {F : Int} {v : Value} {b o : Nat} {x : BitVec 128} {n h : Int} (g : C8 w F v b o x n h W) (hb : Below W.heap.size W W') : C8 w F v b o x n h W' := ⟨g.1.below hb, ⟨keepc hb g.2.1.1, keepc hb g.2.1.2.1, keepc hb g.2.1.2.2.1, keepc hb g.2.1.2.2.2⟩, keepb hb g.2.2⟩
theorem C8.drew {w W : World} {F : Int} {v : Value} {b o : Nat} {x : BitVec 128} {n h : Int} (g : C8 w F v b o x n h W) : C8 w F v b o x n h W.drew := ⟨g.1, g.2.1, g.2.2.drew⟩
/-- A table, two routes of its row. -/
def C14 (w : World) (F : Int) (v : Value) (b o u : Nat) (x : BitVec 128) (n h : Int) (y : BitVec 128) (m g : Int) (W : World) : Prop := AtT W w.heap.size F v ∧ (W.cell? ⟨b, o, none⟩ = some (.int .u64 (hI x)) ∧ W.cell? ⟨b, o + 1, none⟩ = some (.int .u64 (lI x)) ∧ W.cell? ⟨b, o + 2, none⟩ = some (.int .i64 n) ∧ W.cell? ⟨b, o + 3, none⟩ = some (.int .i64 h)) ∧ (W.cell? ⟨b, u, none⟩ = some (.int .u64 (hI y)) ∧ W.cell? ⟨b, u + 1, none⟩ = some (.int .u64 (lI y)) ∧ W.cell? ⟨b, u + 2, none⟩ = some (.int .i64 m) ∧ W.cell? ⟨b, u + 3, none⟩ = some (.int .i64 g)) ∧ Below w.heap.size w W
theorem C14.below {w W W' : World} {F : Int} {v : Value} {b o u : Nat} {x : BitVec 128} {n h : Int} {y : BitVec 128} {m g : Int} (q : C14 w F v b o u x n h y m g W) (hb : Below W.heap.size W W') : C14 w F v b o u x n h y m g W' := ⟨q.1.below hb, ⟨keepc hb q.2.1.1, keepc hb q.2.1.2.1, keepc hb q.2.1.2.2.1, keepc hb q.2.1.2.2.2⟩, ⟨keepc hb q.2.2.1.1, keepc hb q.2.2.1.2.1, keepc hb q.2.2.1.2.2.1, keepc hb q.2.2.1.2.2.2⟩, keepb hb q.2.2.2⟩
theorem C14.drew {w W : World} {F : Int} {v : Value} {b o u : Nat} {x : BitVec 128} {n h : Int} {y : BitVec 128} {m g : Int} (q : C14 w F v b o u x n h y m g W) : C14 w F v b o u x n h y m g W.drew := ⟨q.1, q.2.1, q.2.2.1, q.2.2.2.drew⟩
/-- Each route stands ahead of the next one. -/
def Adj (l : List Rte) : Prop := ∀ (a : Nat) (h : a + 1 < l.length), pcmpZ l[a].1.1 l[a].1.2 l[a + 1].1.1 l[a + 1].1.2 < 0
/-- What Check tells of a table. -/
def TabE (F : Int) (l : List Rte) (z : Int) : Prop := (rtsE F l ≠ 0 → z = rtsE F l) ∧ (rtsE F l = 0 → (Adj l ∧ z = 0) ∨ (¬ Adj l ∧ z = 19))
set_option maxRecDepth 20000 in
set_option maxHeartbeats 8000000 in
theorem rcheckT_any (F : Int) (v : Value) (l : List Rte) (w : World) (hv : RwR w v l) :
    Calls Tryd.prog 18 #[.agg #[.int .i64 F, v]] w fun e w' => (∃ z, TabE F l z ∧ e = .returned (.int .i64 z)) ∧ Below w.heap.size w w' := by
  obtain ⟨ao, c, rfl, hv⟩ := hv
  have KI := fun w => isFamily_any F w
  have HT := hidR (att_new w w.heap.size F (.slice ao l.length c) 24 rfl)
  have HB := hidR (bl1 w (.cells #[.int .i64 F, .slice ao l.length c] 24))
  have HV : Hid (l = [] ∨ ∃ b off, ao = some ⟨b, off, none⟩ ∧ ∀ j u, (rowR l)[j]? = some u → w.cell? ⟨b, off + j, none⟩ = some u) := hv
  obtain ⟨t0, t1⟩ := HT.out
  clear hv
  cases hf : fam F
  · rw [hf] at KI
    have HE : Hid (TabE F l 11) := hidR (by unfold TabE rtsE; rw [if_neg (by simp [hf])]; exact ⟨fun _ => rfl, fun h => by omega⟩)
    clear hf HV HT
    go_enter Tryd.func18, Tryd.ntmps18
    go_wp2_with fail
    refine (KI _).mono ?_
    rintro e w1 ⟨rfl, rfl⟩
    clear KI
    go_wp2
    go_ret
    exact ⟨⟨11, HE.out, rfl⟩, HB.out⟩
  · rw [hf] at KI
    by_cases hl : 1048576 < l.length
    · have HE : Hid (TabE F l 16) := hidR (by unfold TabE rtsE; rw [if_pos (by simp [hf]), if_pos hl]; exact ⟨fun _ => rfl, fun h => by omega⟩)
      have h1 : (1048576 : Int) < (l.length : Int) := by omega
      clear hf HV HT
      go_enter Tryd.func18, Tryd.ntmps18
      go_wp2_with fail
      refine (KI _).mono ?_
      rintro e w1 ⟨rfl, rfl⟩
      clear KI
      go_wp2
      go_ret
      exact ⟨⟨16, HE.out, rfl⟩, HB.out⟩
    · have h1 : ¬ (1048576 : Int) < (l.length : Int) := by omega
      have HRE : Hid (rtsE F l = rtsG F l) := hidR (by unfold rtsE; rw [if_pos hf, if_neg hl])
      clear hf hl
      go_enter Tryd.func18, Tryd.ntmps18
      go_wp2_with fail
      refine (KI _).mono ?_
      rintro e w1 ⟨rfl, rfl⟩
      clear KI
      go_wp2_with fail
      go_loopw [3] (fun i wr => ∃ k : Nat, k ≤ l.length ∧ i = .int .i64 k ∧ Hid (rtsG F (l.drop k) = rtsG F l) ∧ Hid (AtT wr w.heap.size F (.slice ao l.length c)) ∧ Hid (Below w.heap.size w wr)) (fun i _ => l.length - (intOf i).toNat)
      case atStart => exact ⟨0, by omega, rfl, hidR rfl, HT, HB⟩
      case round =>
        clear HT HB t0 t1
        obtain ⟨k, hk, rfl, HG, HT, HB⟩ := hrel
        obtain ⟨t0, t1⟩ := HT.out
        by_cases hlt : (k : Int) < (l.length : Int)
        · have hks : k < l.length := by omega
          rcases HV.out with e | ⟨b, off, rfl, hc⟩
          · rw [e] at hks; simp at hks
          · obtain ⟨x0, x1, x2, x3⟩ := rwr_cells hc k hks
            have HC := hidR (C8.drew ⟨HT.out, ⟨keepc HB.out x0, keepc HB.out x1, keepc HB.out x2, keepc HB.out x3⟩, HB.out⟩ : C8 w F (.slice (some ⟨b, off, none⟩) l.length c) b (off + k * 4) l[k].1.1 l[k].1.2 l[k].2 wr.drew)
            have KC := fun w => rchecked_any F l[k].1.1 l[k].1.2 l[k].2 w
            have HD := hidR (rts_drop F l k hks)
            have eR : ((l[k].1.1, l[k].1.2), l[k].2) = l[k] := rfl
            rw [eR] at KC
            have KC := KC
            clear x0 x1 x2 x3 hc HV eR HT HB
            revert KC HD HC
            generalize rteE F l[k] = ce
            generalize l[k].1.1 = px
            generalize l[k].1.2 = pn
            generalize l[k].2 = ph
            intro HC HD KC
            go_wp2_with fail
            refine qp_region2 9 (qpOk 9 9 (by decide) (fun N => by kernel_rfl) (by kernel_rfl) (by kernel_rfl) (by kernel_rfl) (by kernel_rfl)) (C := C8 w F (.slice (some ⟨b, off, none⟩) l.length c) b (off + k * 4) px pn ph) [some 21, some 22, some 23, some 24, some 25, some 26, some 27, some 28, some 4] [.pointer (some ⟨w.heap.size, 0, none⟩), .int .i64 F, .pointer (some ⟨w.heap.size, 1, none⟩), .slice (some ⟨b, off, none⟩) l.length c, .int .i64 (k : Int), .pointer (some ⟨b, off + k * 4, none⟩), .agg #[.int .u64 (hI px), .int .u64 (lI px), .int .i64 pn, .int .i64 ph], .int .i64 ce, .int .i64 ce] (by kernel_rfl) HC.out ?walk ?fin
            case walk =>
              dsimp only [List.take]
              clear HC HD HG t0 t1
              refine q_run (v := .pointer (some ⟨w.heap.size, 0, none⟩)) (by rfl) ?_ ?_
              · (intro w1 hC; obtain ⟨⟨t0, t1⟩, ⟨x0, x1, x2, x3⟩, -⟩ := hC; go_simp; first | done | (simp; done) | (simp [*]; done) | omega | (simp; omega) | (rw [IntKind.wrap_i64]; omega) | (intro hx; omega) | rfl)
              simp only [Act.put, List.setIfInBounds_toArray, List.set_cons_zero, List.set_cons_succ]
              refine q_run (v := .int .i64 F) (by rfl) ?_ ?_
              · (intro w1 hC; obtain ⟨⟨t0, t1⟩, ⟨x0, x1, x2, x3⟩, -⟩ := hC; go_simp; first | done | (simp; done) | (simp [*]; done) | omega | (simp; omega) | (rw [IntKind.wrap_i64]; omega) | (intro hx; omega) | rfl)
              simp only [Act.put, List.setIfInBounds_toArray, List.set_cons_zero, List.set_cons_succ]
              refine q_run (v := .pointer (some ⟨w.heap.size, 1, none⟩)) (by rfl) ?_ ?_
              · (intro w1 hC; obtain ⟨⟨t0, t1⟩, ⟨x0, x1, x2, x3⟩, -⟩ := hC; go_simp; first | done | (simp; done) | (simp [*]; done) | omega | (simp; omega) | (rw [IntKind.wrap_i64]; omega) | (intro hx; omega) | rfl)
              simp only [Act.put, List.setIfInBounds_toArray, List.set_cons_zero, List.set_cons_succ]
              refine q_run (v := .slice (some ⟨b, off, none⟩) l.length c) (by rfl) ?_ ?_
              · (intro w1 hC; obtain ⟨⟨t0, t1⟩, ⟨x0, x1, x2, x3⟩, -⟩ := hC; go_simp; first | done | (simp; done) | (simp [*]; done) | omega | (simp; omega) | (rw [IntKind.wrap_i64]; omega) | (intro hx; omega) | rfl)
              simp only [Act.put, List.setIfInBounds_toArray, List.set_cons_zero, List.set_cons_succ]
              refine q_run (v := .int .i64 (k : Int)) (by rfl) ?_ ?_
              · (intro w1 hC; obtain ⟨⟨t0, t1⟩, ⟨x0, x1, x2, x3⟩, -⟩ := hC; go_simp; first | done | (simp; done) | (simp [*]; done) | omega | (simp; omega) | (rw [IntKind.wrap_i64]; omega) | (intro hx; omega) | rfl)
              simp only [Act.put, List.setIfInBounds_toArray, List.set_cons_zero, List.set_cons_succ]
              refine q_run (v := .pointer (some ⟨b, off + k * 4, none⟩)) (by rfl) ?_ ?_
              · (intro w1 hC; obtain ⟨⟨t0, t1⟩, ⟨x0, x1, x2, x3⟩, -⟩ := hC; go_simp; first | done | (simp; done) | (simp [*]; done) | omega | (simp; omega) | (rw [IntKind.wrap_i64]; omega) | (intro hx; omega) | rfl)
              simp only [Act.put, List.setIfInBounds_toArray, List.set_cons_zero, List.set_cons_succ]
              refine q_run (v := .agg #[.int .u64 (hI px), .int .u64 (lI px), .int .i64 pn, .int .i64 ph]) (by rfl) ?_ ?_
              · (intro w1 hC; obtain ⟨⟨t0, t1⟩, ⟨x0, x1, x2, x3⟩, -⟩ := hC; go_simp; first | done | (simp; done) | (simp [*]; done) | omega | (simp; omega) | (rw [IntKind.wrap_i64]; omega) | (intro hx; omega) | rfl)
              simp only [Act.put, List.setIfInBounds_toArray, List.set_cons_zero, List.set_cons_succ]
              refine q_call (v := .int .i64 ce) (f := 34) (args := #[.int .i64 F, .agg #[.int .u64 (hI px), .int .u64 (lI px), .int .i64 pn, .int .i64 ph]]) (by rfl) ?_ ?_ ?_
              · (intro w1 hC; clear hC; go_simp)
              · exact fun w1 hC => (KC w1).mono fun e w' ⟨he, hb⟩ => ⟨he, hC.below hb⟩
              simp only [Act.put, List.setIfInBounds_toArray, List.set_cons_zero, List.set_cons_succ]
              refine q_run (v := .int .i64 ce) (by rfl) ?_ ?_
              · (intro w1 hC; obtain ⟨⟨t0, t1⟩, ⟨x0, x1, x2, x3⟩, -⟩ := hC; go_simp; first | done | (simp; done) | (simp [*]; done) | omega | (simp; omega) | (rw [IntKind.wrap_i64]; omega) | (intro hx; omega) | rfl)
              simp only [Act.put, List.setIfInBounds_toArray, List.set_cons_zero, List.set_cons_succ]
              refine wpQuiet_nil ?_
              simp only [putAll, Act.put, List.setIfInBounds_toArray, List.set_cons_zero, List.set_cons_succ]
            case fin =>
              intro W hC
              simp only [putAll, Act.put, List.setIfInBounds_toArray, List.set_cons_zero, List.set_cons_succ]
              dsimp only [List.drop]
              have HT := hidR hC.1
              have HB := hidR hC.2.2
              clear hC HC KC t0 t1
              have mk : IntKind.i64.wrap ((k : Int) + 1) = (k : Int) + 1 := by rw [IntKind.wrap_i64]; omega
              by_cases hce : ce = 0
              · subst hce
                go_wp2
                go_roundw
                case rel => exact ⟨k + 1, by omega, by go_num, hidR (by rw [← HG.out, HD.out]; simp), HT, HB⟩
                case measure => simp [intOf]; omega
              · have hn : (ce != 0) = true := by simp [hce]
                have HE : Hid (TabE F l ce) := hidR (by
                  have e1 : rtsE F l = ce := by rw [HRE.out, ← HG.out, HD.out, if_neg hce]
                  unfold TabE
                  rw [e1]
                  exact ⟨fun _ => rfl, fun h => absurd h hce⟩)
                clear HG HD HRE HT
                go_wp2
                go_ret
                exact ⟨⟨ce, HE.out, rfl⟩, HB.out⟩
        · have hd : ¬ k < l.length := by omega
          have HZ : Hid (rtsE F l = 0) := hidR (by rw [HRE.out, ← HG.out, List.drop_eq_nil_of_le (by omega)]; rfl)
          clear HG HRE
          go_wp2_with fail
          go_loopw [5] (fun i wr => ∃ k1 p : Nat, k1 = p + 1 ∧ p ≤ l.length ∧ i = .int .i64 k1 ∧ Hid (∀ (a : Nat) (h : a + 1 < l.length), a < p → pcmpZ l[a].1.1 l[a].1.2 l[a + 1].1.1 l[a + 1].1.2 < 0) ∧ Hid (AtT wr w.heap.size F (.slice ao l.length c)) ∧ Hid (Below w.heap.size w wr)) (fun i _ => l.length - (intOf i).toNat)
          case atStart => exact ⟨1, 0, rfl, by omega, rfl, hidR fun a h g => by omega, HT, HB⟩
          case round =>
            clear HT HB t0 t1
            obtain ⟨k1, p, hkp, hp, rfl, HG, HT, HB⟩ := hrel
            obtain ⟨t0, t1⟩ := HT.out
            by_cases hlt : (k1 : Int) < (l.length : Int)
            · have hks : k1 < l.length := by omega
              have hps : p < l.length := by omega
              rcases HV.out with e | ⟨b, off, rfl, hc⟩
              · rw [e] at hks; simp at hks
              · obtain ⟨x0, x1, x2, x3⟩ := rwr_cells hc p hps
                obtain ⟨y0, y1, y2, y3⟩ := rwr_cells hc k1 hks
                have HC := hidR (C14.drew ⟨HT.out, ⟨keepc HB.out x0, keepc HB.out x1, keepc HB.out x2, keepc HB.out x3⟩, ⟨keepc HB.out y0, keepc HB.out y1, keepc HB.out y2, keepc HB.out y3⟩, HB.out⟩ : C14 w F (.slice (some ⟨b, off, none⟩) l.length c) b (off + p * 4) (off + k1 * 4) l[p].1.1 l[p].1.2 l[p].2 l[k1].1.1 l[k1].1.2 l[k1].2 wr.drew)
                have KZ := fun w => rpcmp_any l[p].1.1 l[p].1.2 l[k1].1.1 l[k1].1.2 w
                have HD : Hid (∀ z, z = pcmpZ l[p].1.1 l[p].1.2 l[k1].1.1 l[k1].1.2 → (z < 0 → ∀ (a : Nat) (h : a + 1 < l.length), a < k1 → pcmpZ l[a].1.1 l[a].1.2 l[a + 1].1.1 l[a + 1].1.2 < 0) ∧ (¬ z < 0 → ¬ Adj l)) := hidR (by
                  rintro z rfl
                  subst hkp
                  refine ⟨fun hz a h ha => ?_, fun hz hA => hz (hA p hks)⟩
                  rcases Nat.lt_or_eq_of_le (Nat.le_of_lt_succ ha) with q | q
                  · exact HG.out a h q
                  · subst q; exact hz)
                clear x0 x1 x2 x3 y0 y1 y2 y3 hc HV HT HB HG
                have HD2 := hidR (HD.out _ rfl)
                clear HD
                revert KZ HD2 HC
                generalize pcmpZ l[p].1.1 l[p].1.2 l[k1].1.1 l[k1].1.2 = cz
                generalize l[p].1.1 = px
                generalize l[p].1.2 = pn
                generalize l[p].2 = ph
                generalize l[k1].1.1 = qx
                generalize l[k1].1.2 = qn
                generalize l[k1].2 = qh
                intro HC KZ HD2
                have ms : IntKind.i64.wrap ((k1 : Int) - 1) = (p : Int) := by rw [IntKind.wrap_i64]; omega
                clear hkp
                go_wp2_with fail
                refine qp_region2 15 (qpOk 15 15 (by decide) (fun N => by kernel_rfl) (by kernel_rfl) (by kernel_rfl) (by kernel_rfl) (by kernel_rfl)) (C := C14 w F (.slice (some ⟨b, off, none⟩) l.length c) b (off + p * 4) (off + k1 * 4) px pn ph qx qn qh) [some 39, some 40, some 41, some 42, some 43, some 44, some 45, some 46, some 47, some 48, some 49, some 50, some 51, some 52, some 53] [.pointer (some ⟨w.heap.size, 1, none⟩), .slice (some ⟨b, off, none⟩) l.length c, .int .i64 (k1 : Int), .int .i64 (p : Int), .pointer (some ⟨b, off + p * 4, none⟩), .pointer (some ⟨b, off + p * 4, none⟩), .agg #[.int .u64 (hI px), .int .u64 (lI px), .int .i64 pn], .pointer (some ⟨w.heap.size, 1, none⟩), .slice (some ⟨b, off, none⟩) l.length c, .int .i64 (k1 : Int), .pointer (some ⟨b, off + k1 * 4, none⟩), .pointer (some ⟨b, off + k1 * 4, none⟩), .agg #[.int .u64 (hI qx), .int .u64 (lI qx), .int .i64 qn], .int .i64 cz, .bool (decide (0 ≤ cz))] (by kernel_rfl) HC.out ?walk ?fin
                case walk =>
                  dsimp only [List.take]
                  clear HC HD2 t0 t1
                  refine q_run (v := .pointer (some ⟨w.heap.size, 1, none⟩)) (by rfl) ?_ ?_
                  · (intro w1 hC; obtain ⟨⟨t0, t1⟩, ⟨x0, x1, x2, -⟩, ⟨y0, y1, y2, -⟩, -⟩ := hC; go_simp; first | done | (simp; done) | (simp [*]; done) | omega | (simp; omega) | (rw [IntKind.wrap_i64]; omega) | (intro hx; omega) | rfl)
                  simp only [Act.put, List.setIfInBounds_toArray, List.set_cons_zero, List.set_cons_succ]
                  refine q_run (v := .slice (some ⟨b, off, none⟩) l.length c) (by rfl) ?_ ?_
                  · (intro w1 hC; obtain ⟨⟨t0, t1⟩, ⟨x0, x1, x2, -⟩, ⟨y0, y1, y2, -⟩, -⟩ := hC; go_simp; first | done | (simp; done) | (simp [*]; done) | omega | (simp; omega) | (rw [IntKind.wrap_i64]; omega) | (intro hx; omega) | rfl)
                  simp only [Act.put, List.setIfInBounds_toArray, List.set_cons_zero, List.set_cons_succ]
                  refine q_run (v := .int .i64 (k1 : Int)) (by rfl) ?_ ?_
                  · (intro w1 hC; obtain ⟨⟨t0, t1⟩, ⟨x0, x1, x2, -⟩, ⟨y0, y1, y2, -⟩, -⟩ := hC; go_simp; first | done | (simp; done) | (simp [*]; done) | omega | (simp; omega) | (rw [IntKind.wrap_i64]; omega) | (intro hx; omega) | rfl)
                  simp only [Act.put, List.setIfInBounds_toArray, List.set_cons_zero, List.set_cons_succ]
                  refine q_run (v := .int .i64 (p : Int)) (by rfl) ?_ ?_
                  · (intro w1 hC; obtain ⟨⟨t0, t1⟩, ⟨x0, x1, x2, -⟩, ⟨y0, y1, y2, -⟩, -⟩ := hC; go_simp; first | done | (simp; done) | (simp [*]; done) | omega | (simp; omega) | (rw [IntKind.wrap_i64]; omega) | (intro hx; omega) | rfl)
                  simp only [Act.put, List.setIfInBounds_toArray, List.set_cons_zero, List.set_cons_succ]
                  refine q_run (v := .pointer (some ⟨b, off + p * 4, none⟩)) (by rfl) ?_ ?_
                  · (intro w1 hC; obtain ⟨⟨t0, t1⟩, ⟨x0, x1, x2, -⟩, ⟨y0, y1, y2, -⟩, -⟩ := hC; go_simp; first | done | (simp; done) | (simp [*]; done) | omega | (simp; omega) | (rw [IntKind.wrap_i64]; omega) | (intro hx; omega) | rfl)
                  simp only [Act.put, List.setIfInBounds_toArray, List.set_cons_zero, List.set_cons_succ]
                  refine q_run (v := .pointer (some ⟨b, off + p * 4, none⟩)) (by rfl) ?_ ?_
                  · (intro w1 hC; obtain ⟨⟨t0, t1⟩, ⟨x0, x1, x2, -⟩, ⟨y0, y1, y2, -⟩, -⟩ := hC; go_simp; first | done | (simp; done) | (simp [*]; done) | omega | (simp; omega) | (rw [IntKind.wrap_i64]; omega) | (intro hx; omega) | rfl)
                  simp only [Act.put, List.setIfInBounds_toArray, List.set_cons_zero, List.set_cons_succ]
                  refine q_run (v := .agg #[.int .u64 (hI px), .int .u64 (lI px), .int .i64 pn]) (by rfl) ?_ ?_
                  · (intro w1 hC; obtain ⟨⟨t0, t1⟩, ⟨x0, x1, x2, -⟩, ⟨y0, y1, y2, -⟩, -⟩ := hC; go_simp; first | done | (simp; done) | (simp [*]; done) | omega | (simp; omega) | (rw [IntKind.wrap_i64]; omega) | (intro hx; omega) | rfl)
                  simp only [Act.put, List.setIfInBounds_toArray, List.set_cons_zero, List.set_cons_succ]
                  refine q_run (v := .pointer (some ⟨w.heap.size, 1, none⟩)) (by rfl) ?_ ?_
                  · (intro w1 hC; obtain ⟨⟨t0, t1⟩, ⟨x0, x1, x2, -⟩, ⟨y0, y1, y2, -⟩, -⟩ := hC; go_simp; first | done | (simp; done) | (simp [*]; done) | omega | (simp; omega) | (rw [IntKind.wrap_i64]; omega) | (intro hx; omega) | rfl)
                  simp only [Act.put, List.setIfInBounds_toArray, List.set_cons_zero, List.set_cons_succ]
                  refine q_run (v := .slice (some ⟨b, off, none⟩) l.length c) (by rfl) ?_ ?_
                  · (intro w1 hC; obtain ⟨⟨t0, t1⟩, ⟨x0, x1, x2, -⟩, ⟨y0, y1, y2, -⟩, -⟩ := hC; go_simp; first | done | (simp; done) | (simp [*]; done) | omega | (simp; omega) | (rw [IntKind.wrap_i64]; omega) | (intro hx; omega) | rfl)
                  simp only [Act.put, List.setIfInBounds_toArray, List.set_cons_zero, List.set_cons_succ]
                  refine q_run (v := .int .i64 (k1 : Int)) (by rfl) ?_ ?_
                  · (intro w1 hC; obtain ⟨⟨t0, t1⟩, ⟨x0, x1, x2, -⟩, ⟨y0, y1, y2, -⟩, -⟩ := hC; go_simp; first | done | (simp; done) | (simp [*]; done) | omega | (simp; omega) | (rw [IntKind.wrap_i64]; omega) | (intro hx; omega) | rfl)
                  simp only [Act.put, List.setIfInBounds_toArray, List.set_cons_zero, List.set_cons_succ]
                  refine q_run (v := .pointer (some ⟨b, off + k1 * 4, none⟩)) (by rfl) ?_ ?_
                  · (intro w1 hC; obtain ⟨⟨t0, t1⟩, ⟨x0, x1, x2, -⟩, ⟨y0, y1, y2, -⟩, -⟩ := hC; go_simp; first | done | (simp; done) | (simp [*]; done) | omega | (simp; omega) | (rw [IntKind.wrap_i64]; omega) | (intro hx; omega) | rfl)
                  simp only [Act.put, List.setIfInBounds_toArray, List.set_cons_zero, List.set_cons_succ]
                  refine q_run (v := .pointer (some ⟨b, off + k1 * 4, none⟩)) (by rfl) ?_ ?_
                  · (intro w1 hC; obtain ⟨⟨t0, t1⟩, ⟨x0, x1, x2, -⟩, ⟨y0, y1, y2, -⟩, -⟩ := hC; go_simp; first | done | (simp; done) | (simp [*]; done) | omega | (simp; omega) | (rw [IntKind.wrap_i64]; omega) | (intro hx; omega) | rfl)
                  simp only [Act.put, List.setIfInBounds_toArray, List.set_cons_zero, List.set_cons_succ]
                  refine q_run (v := .agg #[.int .u64 (hI qx), .int .u64 (lI qx), .int .i64 qn]) (by rfl) ?_ ?_
                  · (intro w1 hC; obtain ⟨⟨t0, t1⟩, ⟨x0, x1, x2, -⟩, ⟨y0, y1, y2, -⟩, -⟩ := hC; go_simp; first | done | (simp; done) | (simp [*]; done) | omega | (simp; omega) | (rw [IntKind.wrap_i64]; omega) | (intro hx; omega) | rfl)
                  simp only [Act.put, List.setIfInBounds_toArray, List.set_cons_zero, List.set_cons_succ]
                  refine q_call (v := .int .i64 cz) (f := 35) (args := #[.agg #[.int .u64 (hI px), .int .u64 (lI px), .int .i64 pn], .agg #[.int .u64 (hI qx), .int .u64 (lI qx), .int .i64 qn]]) (by rfl) ?_ ?_ ?_
                  · (intro w1 hC; clear hC; go_simp)
                  · exact fun w1 hC => (KZ w1).mono fun e w' ⟨he, hb⟩ => ⟨he, hC.below hb⟩
                  simp only [Act.put, List.setIfInBounds_toArray, List.set_cons_zero, List.set_cons_succ]
                  refine q_run (v := .bool (decide (0 ≤ cz))) (by rfl) ?_ ?_
                  · (intro w1 hC; obtain ⟨⟨t0, t1⟩, ⟨x0, x1, x2, -⟩, ⟨y0, y1, y2, -⟩, -⟩ := hC; go_simp; first | done | (simp; done) | (simp [*]; done) | omega | (simp; omega) | (rw [IntKind.wrap_i64]; omega) | (intro hx; omega) | rfl)
                  simp only [Act.put, List.setIfInBounds_toArray, List.set_cons_zero, List.set_cons_succ]
                  refine wpQuiet_nil ?_
                  simp only [putAll, Act.put, List.setIfInBounds_toArray, List.set_cons_zero, List.set_cons_succ]
                case fin =>
                  intro W hC
                  simp only [putAll, Act.put, List.setIfInBounds_toArray, List.set_cons_zero, List.set_cons_succ]
                  dsimp only [List.drop]
                  have HT := hidR hC.1
                  have HB := hidR hC.2.2.2
                  clear hC HC KZ t0 t1 ms
                  have mk : IntKind.i64.wrap ((k1 : Int) + 1) = (k1 : Int) + 1 := by rw [IntKind.wrap_i64]; omega
                  by_cases hz : cz < 0
                  · have hz' : ¬ 0 ≤ cz := by omega
                    have HG := hidR (HD2.out.1 hz)
                    clear HD2
                    go_wp2
                    go_roundw
                    case rel => exact ⟨k1 + 1, k1, rfl, by omega, by go_num, HG, HT, HB⟩
                    case measure => simp [intOf]; omega
                  · have hz' : 0 ≤ cz := by omega
                    have HE : Hid (TabE F l 19) := hidR ⟨fun h => absurd HZ.out h, fun _ => .inr ⟨HD2.out.2 (by omega), rfl⟩⟩
                    clear HD2 HT HZ
                    go_wp2
                    go_ret
                    exact ⟨⟨19, HE.out, rfl⟩, HB.out⟩
            · have HE : Hid (TabE F l 0) := hidR ⟨fun h => absurd HZ.out h, fun _ => .inl ⟨fun a h => HG.out a h (by omega), rfl⟩⟩
              have hd : ¬ k1 < l.length := by omega
              clear HZ HG HT
              go_wp2
              go_ret
              exact ⟨⟨0, HE.out, rfl⟩, HB.out⟩
end Go.Proofs.YtmkjlcfoedglmabDoor
/-
  Right segments, as plain lists: two lists that say the same of each address are one.
-/
namespace Go.Proofs.YtmkjlcfoedglmabDoor
set_option linter.unusedSimpArgs false
set_option linter.unusedVariables false

theorem sgE_zero (F : Int) (s : Sg) (h : sgE F s = 0) : rightE F s.1.1 = 0 ∧ rightE F s.1.2 = 0 ∧ 0 ≤ s.2 ∧ s.2 ≤ 65535 ∧ s.1.1.toNat ≤ s.1.2.toNat := by
  unfold sgE at h
  split at h
  · rename_i h1
    split at h
    · rename_i h2
      split at h
      · omega
      · rename_i h3
        split at h
        · omega
        · rename_i h4
          split at h
          · omega
          · rename_i h5
            rw [cmp_lt0] at h5
            exact ⟨h1, h2, by omega, by omega, by omega⟩
    · omega
  · omega
theorem sgE_of (F : Int) (s : Sg) (h1 : rightE F s.1.1 = 0) (h2 : rightE F s.1.2 = 0) (h3 : 0 ≤ s.2) (h4 : s.2 ≤ 65535) (h5 : s.1.1.toNat ≤ s.1.2.toNat) : sgE F s = 0 := by
  unfold sgE
  rw [if_pos h1, if_pos h2, if_neg (by omega), if_neg (by omega), if_neg (by rw [cmp_lt0]; omega)]
/-- What is known where no error is told of segments behind one. -/
theorem sgsGo_cons (F : Int) (p : Option Sg) (s : Sg) (l : List Sg) (h : sgsGo F p (s :: l) = 0) : sgE F s = 0 ∧ moO F p = true ∧ s.1.1 = nxO F p ∧ p.map (·.2) ≠ some s.2 ∧ sgsGo F (some s) l = 0 := by
  rw [sgsGo] at h
  split at h
  · rename_i h1
    split at h
    · rename_i h2
      split at h
      · rename_i h3
        split at h
        · omega
        · rename_i h4
          exact ⟨h1, h2, by simpa using h3, h4, h⟩
      · omega
    · omega
  · rename_i h1; exact absurd h h1
theorem sgsGo_step (F : Int) (p : Option Sg) (s : Sg) (l : List Sg) (h1 : sgE F s = 0) (h2 : moO F p = true) (h3 : s.1.1 = nxO F p) (h4 : p.map (·.2) ≠ some s.2) : sgsGo F p (s :: l) = sgsGo F (some s) l := by
  rw [sgsGo, if_pos h1, if_pos h2, if_pos (by simp [h3]), if_neg h4]
/-- Segments say of each address what f says. -/
def Says (F : Int) (f : BitVec 128 → Int) (l : List Sg) : Prop := ∀ s ∈ l, ∀ x : BitVec 128, rightE F x = 0 → s.1.1.toNat ≤ x.toNat → x.toNat ≤ s.1.2.toNat → s.2 = f x
theorem right_dvd (F : Int) (x : BitVec 128) (h : rightE F x = 0) : 2 ^ (128 - F.toNat) ∣ x.toNat := by
  obtain ⟨hf, hx⟩ := right0 F x h
  exact (cut_dvd x F).mp hx
theorem right_max (F : Int) (x : BitVec 128) (h : rightE F x = 0) : x.toNat ≤ (maskW F).toNat := by
  obtain ⟨hf, hx⟩ := right0 F x h
  rw [← hx, BitVec.and_comm, BitVec.toNat_and]
  exact Nat.and_le_left
theorem next_le (F : Int) (x y : BitVec 128) (hx : rightE F x = 0) (hy : rightE F y = 0) (h : x.toNat < y.toNat) : nextB F x = true ∧ (nextV F x).toNat ≤ y.toNat ∧ rightE F (nextV F x) = 0 ∧ x.toNat < (nextV F x).toNat := by
  have hb : nextB F x = true := by
    cases e : nextB F x with
    | true => rfl
    | false =>
      have := next_none F x hx e
      have h2 := right_max F y hy
      rw [this] at h
      omega
  obtain ⟨h1, hf, _, h3⟩ := next_nat F x hb
  obtain ⟨a, ha⟩ := right_dvd F x hx
  obtain ⟨b, hb'⟩ := right_dvd F y hy
  have hp : 0 < 2 ^ (128 - F.toNat) := Nat.two_pow_pos _
  refine ⟨hb, ?_, right_of F _ hf h3, by omega⟩
  rw [h1, ha, hb']
  rw [ha, hb'] at h
  have hab : a < b := Nat.lt_of_mul_lt_mul_left h
  calc 2 ^ (128 - F.toNat) * a + 2 ^ (128 - F.toNat) = 2 ^ (128 - F.toNat) * (a + 1) := by rw [Nat.mul_add, Nat.mul_one]
    _ ≤ _ := Nat.mul_le_mul_left _ hab
theorem segs_end (F : Int) (f : BitVec 128 → Int) (s t : Sg) (l m : List Sg) (hs : sgE F s = 0) (ht : sgE F t = 0) (h1 : s.1.1 = t.1.1) (hl : sgsGo F (some s) l = 0) (sl : Says F f (s :: l)) (st : Says F f (t :: m)) (hlt : s.1.2.toNat < t.1.2.toNat) : False := by
  obtain ⟨s1, s2, s3, s4, s5⟩ := sgE_zero F s hs
  obtain ⟨t1, t2, t3, t4, t5⟩ := sgE_zero F t ht
  obtain ⟨nb, nl, nr, ng⟩ := next_le F s.1.2 t.1.2 s2 t2 hlt
  cases l with
  | nil =>
    rw [sgsGo] at hl
    unfold moO at hl
    rw [if_pos nb] at hl
    omega
  | cons u l =>
    obtain ⟨u1, u2, u3, u4, u5⟩ := sgsGo_cons F (some s) u l hl
    obtain ⟨v1, v2, v3, v4, v5⟩ := sgE_zero F u u1
    have e : u.1.1 = nextV F s.1.2 := u3
    have a1 := sl u (by simp) (nextV F s.1.2) nr (by rw [e]; exact Nat.le_refl _) (by rw [← e]; exact v5)
    have a2 := st t (by simp) (nextV F s.1.2) nr (by rw [← h1]; omega) nl
    have a3 := sl s (by simp) s.1.1 s1 (Nat.le_refl _) s5
    have a4 := st t (by simp) s.1.1 s1 (by rw [h1]; exact Nat.le_refl _) (by rw [h1]; exact t5)
    apply u4
    simp [a1, ← a2, a4, a3]
theorem segs_unique (F : Int) (f : BitVec 128 → Int) : ∀ (l m : List Sg) (p q : Option Sg), sgsGo F p l = 0 → sgsGo F q m = 0 → moO F p = moO F q → nxO F p = nxO F q → Says F f l → Says F f m → l = m
  | [], [], _, _, _, _, _, _, _, _ => rfl
  | [], t :: m, p, q, h1, h2, h3, h4, h5, h6 => by
    obtain ⟨t1, t2, _⟩ := sgsGo_cons F q t m h2
    rw [sgsGo, h3, if_pos t2] at h1
    omega
  | s :: l, [], p, q, h1, h2, h3, h4, h5, h6 => by
    obtain ⟨t1, t2, _⟩ := sgsGo_cons F p s l h1
    rw [sgsGo, ← h3, if_pos t2] at h2
    omega
  | s :: l, t :: m, p, q, h1, h2, h3, h4, h5, h6 => by
    obtain ⟨s1, s2, s3, s4, s5⟩ := sgsGo_cons F p s l h1
    obtain ⟨t1, t2, t3, t4, t5⟩ := sgsGo_cons F q t m h2
    have e1 : s.1.1 = t.1.1 := by rw [s3, t3, h4]
    obtain ⟨a1, a2, a3, a4, a5⟩ := sgE_zero F s s1
    obtain ⟨b1, b2, b3, b4, b5⟩ := sgE_zero F t t1
    have e2 : s.2 = t.2 := by
      have x1 := h5 s (by simp) s.1.1 a1 (Nat.le_refl _) a5
      have x2 := h6 t (by simp) s.1.1 a1 (by rw [e1]; exact Nat.le_refl _) (by rw [e1]; exact b5)
      rw [x1, x2]
    have e3 : s.1.2 = t.1.2 := by
      apply BitVec.eq_of_toNat_eq
      rcases Nat.lt_trichotomy s.1.2.toNat t.1.2.toNat with h | h | h
      · exact absurd (segs_end F f s t l m s1 t1 e1 s5 h5 h6 h) id
      · exact h
      · exact absurd (segs_end F f t s m l t1 s1 e1.symm t5 h6 h5 h) id
    have e : s = t := by
      obtain ⟨⟨sx, sy⟩, sh⟩ := s
      obtain ⟨⟨tx, ty⟩, th⟩ := t
      simp only at e1 e2 e3
      subst e1; subst e2; subst e3; rfl
    subst e
    rw [segs_unique F f l m (some s) (some s) s5 t5 rfl rfl (fun u hu => h5 u (List.mem_cons_of_mem _ hu)) (fun u hu => h6 u (List.mem_cons_of_mem _ hu))]
/-- What is told so far is right, the last one first. -/
def Good (F : Int) : List Sg → Prop
  | [] => True
  | a :: st => sgE F a = 0 ∧ moO F st.head? = true ∧ a.1.1 = nxO F st.head? ∧ st.head?.map (·.2) ≠ some a.2 ∧ Good F st
theorem good_go (F : Int) : ∀ (st : List Sg) (rest : List Sg), Good F st → sgsGo F none (st.reverse ++ rest) = sgsGo F st.head? rest
  | [], rest, _ => rfl
  | a :: st, rest, h => by
    obtain ⟨h1, h2, h3, h4, h5⟩ := h
    rw [List.reverse_cons, List.append_assoc, List.singleton_append, good_go F st (a :: rest) h5, sgsGo_step F st.head? a rest h1 h2 h3 h4]
    rfl
end Go.Proofs.YtmkjlcfoedglmabDoor
