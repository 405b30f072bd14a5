/-
  Part 13 of the proof: 5 texts, one behind the other.
-/
import Derived.Test.YtohnhpicjedfeaaPart10
import Derived.Test.YtohnhpicjedfeaaPart4
import Derived.Test.YtohnhpicjedfeaaPart5
import Derived.Test.YtohnhpicjedfeaaPart12
namespace Go.Proofs.Ytohnhpicjedfeaa
open Go.RowKit
set_option linter.unusedSimpArgs false
set_option linter.unusedVariables false

set_option maxHeartbeats 2000000 in
theorem rchecked_any (F : Int) (x : BitVec 128) (n h : Int) (w : World) :
    Calls Try.prog 23 #[.int .i64 F, .agg #[.int .u64 (hI x), .int .u64 (lI x), .int .i64 n, .int .i64 h]] w fun e w' => e = .returned (.int .i64 (rteE F ((x, n), h))) ∧ Below w.heap.size w w' := by
  have KC := fun w => rcheck_any F x n w
  unfold rteE hopB
  dsimp only
  revert KC
  generalize checkE F x n = ce
  intro KC
  obtain ⟨p0, p1, p2, p3⟩ := atr_new w w.heap.size x n h 40 rfl
  have A1 := hidR (atr_new w w.heap.size x n h 40 rfl)
  have b1 := hidR (bl1 w (.cells #[.int .u64 (hI x), .int .u64 (lI x), .int .i64 n, .int .i64 h] 40))
  obtain ⟨re, hre⟩ : ∃ re, re = if ce = 0 then if (decide (1 ≤ h) && decide (h ≤ 65535)) = true then (0 : Int) else 15 else ce := ⟨_, rfl⟩
  rw [← hre]
  have HRE := hidR hre
  clear hre
  go_enter Try.func23, Try.ntmps23
  go_wp2_with fail
  refine (KC _).mono ?_
  rintro e w1 ⟨rfl, hb⟩
  have kB := keepb hb b1.out
  obtain ⟨q0, q1, q2, q3⟩ := A1.out.below hb
  clear KC hb A1 b1 p0 p1 p2 p3
  by_cases hc : ce = 0
  · subst hc
    by_cases g1 : h < 1
    · have HE : Hid (re = 15) := hidR (by rw [HRE.out, if_pos rfl, if_neg (by simp; omega)])
      clear HRE
      go_wp2
      go_ret
      exact ⟨by rw [HE.out]; rfl, kB⟩
    · by_cases g2 : 65535 < h
      · have HE : Hid (re = 15) := hidR (by rw [HRE.out, if_pos rfl, if_neg (by simp; omega)])
        clear HRE
        go_wp2
        go_ret
        exact ⟨by rw [HE.out]; rfl, kB⟩
      · have HE : Hid (re = 0) := hidR (by rw [HRE.out, if_pos rfl, if_pos (by simp; omega)])
        clear HRE
        go_wp2
        go_ret
        exact ⟨by rw [HE.out]; rfl, kB⟩
  · have hn : (ce == 0) = false := by simp [hc]
    have HE : Hid (re = ce) := hidR (by rw [HRE.out, if_neg hc])
    clear HRE
    go_wp2
    go_ret
    exact ⟨by rw [HE.out]; rfl, kB⟩
def C8 (w : World) (F : Int) (v : Value) (b o : Nat) (x : BitVec 128) (n h : Int) (W : World) : Prop := AtT W w.heap.size F v ∧ (W.cell? ⟨b, o, none⟩ = some (.int .u64 (hI x)) ∧ W.cell? ⟨b, o + 1, none⟩ = some (.int .u64 (lI x)) ∧ W.cell? ⟨b, o + 2, none⟩ = some (.int .i64 n) ∧ W.cell? ⟨b, o + 3, none⟩ = some (.int .i64 h)) ∧ Below w.heap.size w W
theorem C8.below {w W W' : World} {F : Int} {v : Value} {b o : Nat} {x : BitVec 128} {n h : Int} (g : C8 w F v b o x n h W) (hb : Below W.heap.size W W') : C8 w F v b o x n h W' := ⟨g.1.below hb, ⟨keepc hb g.2.1.1, keepc hb g.2.1.2.1, keepc hb g.2.1.2.2.1, keepc hb g.2.1.2.2.2⟩, keepb hb g.2.2⟩
theorem C8.drew {w W : World} {F : Int} {v : Value} {b o : Nat} {x : BitVec 128} {n h : Int} (g : C8 w F v b o x n h W) : C8 w F v b o x n h W.drew := ⟨g.1, g.2.1, g.2.2.drew⟩
def C14 (w : World) (F : Int) (v : Value) (b o u : Nat) (x : BitVec 128) (n h : Int) (y : BitVec 128) (m g : Int) (W : World) : Prop := AtT W w.heap.size F v ∧ (W.cell? ⟨b, o, none⟩ = some (.int .u64 (hI x)) ∧ W.cell? ⟨b, o + 1, none⟩ = some (.int .u64 (lI x)) ∧ W.cell? ⟨b, o + 2, none⟩ = some (.int .i64 n) ∧ W.cell? ⟨b, o + 3, none⟩ = some (.int .i64 h)) ∧ (W.cell? ⟨b, u, none⟩ = some (.int .u64 (hI y)) ∧ W.cell? ⟨b, u + 1, none⟩ = some (.int .u64 (lI y)) ∧ W.cell? ⟨b, u + 2, none⟩ = some (.int .i64 m) ∧ W.cell? ⟨b, u + 3, none⟩ = some (.int .i64 g)) ∧ Below w.heap.size w W
theorem C14.below {w W W' : World} {F : Int} {v : Value} {b o u : Nat} {x : BitVec 128} {n h : Int} {y : BitVec 128} {m g : Int} (q : C14 w F v b o u x n h y m g W) (hb : Below W.heap.size W W') : C14 w F v b o u x n h y m g W' := ⟨q.1.below hb, ⟨keepc hb q.2.1.1, keepc hb q.2.1.2.1, keepc hb q.2.1.2.2.1, keepc hb q.2.1.2.2.2⟩, ⟨keepc hb q.2.2.1.1, keepc hb q.2.2.1.2.1, keepc hb q.2.2.1.2.2.1, keepc hb q.2.2.1.2.2.2⟩, keepb hb q.2.2.2⟩
theorem C14.drew {w W : World} {F : Int} {v : Value} {b o u : Nat} {x : BitVec 128} {n h : Int} {y : BitVec 128} {m g : Int} (q : C14 w F v b o u x n h y m g W) : C14 w F v b o u x n h y m g W.drew := ⟨q.1, q.2.1, q.2.2.1, q.2.2.2.drew⟩
def Adj (l : List Rte) : Prop := ∀ (a : Nat) (h : a + 1 < l.length), pcmpZ l[a].1.1 l[a].1.2 l[a + 1].1.1 l[a + 1].1.2 < 0
def TabE (F : Int) (l : List Rte) (z : Int) : Prop := (rtsE F l ≠ 0 → z = rtsE F l) ∧ (rtsE F l = 0 → (Adj l ∧ z = 0) ∨ (¬ Adj l ∧ z = 19))
set_option maxRecDepth 20000 in
set_option maxHeartbeats 8000000 in
theorem rcheckT_any (F : Int) (v : Value) (l : List Rte) (w : World) (hv : RwR w v l) :
    Calls Try.prog 26 #[.agg #[.int .i64 F, v]] w fun e w' => (∃ z, TabE F l z ∧ e = .returned (.int .i64 z)) ∧ Below w.heap.size w w' := by
  obtain ⟨ao, c, rfl, hv⟩ := hv
  have KI := fun w => isFamily_any F w
  have HT := hidR (att_new w w.heap.size F (.slice ao l.length c) 25 rfl)
  have HB := hidR (bl1 w (.cells #[.int .i64 F, .slice ao l.length c] 25))
  have HV : Hid (l = [] ∨ ∃ b off, ao = some ⟨b, off, none⟩ ∧ ∀ j u, (rowR l)[j]? = some u → w.cell? ⟨b, off + j, none⟩ = some u) := hv
  obtain ⟨t0, t1⟩ := HT.out
  clear hv
  cases hf : fam F
  · rw [hf] at KI
    have HE : Hid (TabE F l 11) := hidR (by unfold TabE rtsE; rw [if_neg (by simp [hf])]; exact ⟨fun _ => rfl, fun h => by omega⟩)
    clear hf HV HT
    go_enter Try.func26, Try.ntmps26
    go_wp2_with fail
    refine (KI _).mono ?_
    rintro e w1 ⟨rfl, rfl⟩
    clear KI
    go_wp2
    go_ret
    exact ⟨⟨11, HE.out, rfl⟩, HB.out⟩
  · rw [hf] at KI
    by_cases hl : 1048576 < l.length
    · have HE : Hid (TabE F l 16) := hidR (by unfold TabE rtsE; rw [if_pos (by simp [hf]), if_pos hl]; exact ⟨fun _ => rfl, fun h => by omega⟩)
      have h1 : (1048576 : Int) < (l.length : Int) := by omega
      clear hf HV HT
      go_enter Try.func26, Try.ntmps26
      go_wp2_with fail
      refine (KI _).mono ?_
      rintro e w1 ⟨rfl, rfl⟩
      clear KI
      go_wp2
      go_ret
      exact ⟨⟨16, HE.out, rfl⟩, HB.out⟩
    · have h1 : ¬ (1048576 : Int) < (l.length : Int) := by omega
      have HRE : Hid (rtsE F l = rtsG F l) := hidR (by unfold rtsE; rw [if_pos hf, if_neg hl])
      clear hf hl
      go_enter Try.func26, Try.ntmps26
      go_wp2_with fail
      refine (KI _).mono ?_
      rintro e w1 ⟨rfl, rfl⟩
      clear KI
      go_wp2_with fail
      go_loopw [3] (fun i wr => ∃ k : Nat, k ≤ l.length ∧ i = .int .i64 k ∧ Hid (rtsG F (l.drop k) = rtsG F l) ∧ Hid (AtT wr w.heap.size F (.slice ao l.length c)) ∧ Hid (Below w.heap.size w wr)) (fun i _ => l.length - (intOf i).toNat)
      case atStart => exact ⟨0, by omega, rfl, hidR rfl, HT, HB⟩
      case round =>
        clear HT HB t0 t1
        obtain ⟨k, hk, rfl, HG, HT, HB⟩ := hrel
        obtain ⟨t0, t1⟩ := HT.out
        by_cases hlt : (k : Int) < (l.length : Int)
        · have hks : k < l.length := by omega
          rcases HV.out with e | ⟨b, off, rfl, hc⟩
          · rw [e] at hks; simp at hks
          · obtain ⟨x0, x1, x2, x3⟩ := rwr_cells hc k hks
            have HC := hidR (C8.drew ⟨HT.out, ⟨keepc HB.out x0, keepc HB.out x1, keepc HB.out x2, keepc HB.out x3⟩, HB.out⟩ : C8 w F (.slice (some ⟨b, off, none⟩) l.length c) b (off + k * 4) l[k].1.1 l[k].1.2 l[k].2 wr.drew)
            have KC := fun w => rchecked_any F l[k].1.1 l[k].1.2 l[k].2 w
            have HD := hidR (rts_drop F l k hks)
            have eR : ((l[k].1.1, l[k].1.2), l[k].2) = l[k] := rfl
            rw [eR] at KC
            have KC := KC
            clear x0 x1 x2 x3 hc HV eR HT HB
            revert KC HD HC
            generalize rteE F l[k] = ce
            generalize l[k].1.1 = px
            generalize l[k].1.2 = pn
            generalize l[k].2 = ph
            intro HC HD KC
            go_wp2_with fail
            refine qp_region2 9 (qpOk 9 9 (by decide) (fun N => by kernel_rfl) (by kernel_rfl) (by kernel_rfl) (by kernel_rfl) (by kernel_rfl)) (C := C8 w F (.slice (some ⟨b, off, none⟩) l.length c) b (off + k * 4) px pn ph) [some 21, some 22, some 23, some 24, some 25, some 26, some 27, some 28, some 4] [.pointer (some ⟨w.heap.size, 0, none⟩), .int .i64 F, .pointer (some ⟨w.heap.size, 1, none⟩), .slice (some ⟨b, off, none⟩) l.length c, .int .i64 (k : Int), .pointer (some ⟨b, off + k * 4, none⟩), .agg #[.int .u64 (hI px), .int .u64 (lI px), .int .i64 pn, .int .i64 ph], .int .i64 ce, .int .i64 ce] (by kernel_rfl) HC.out ?walk ?fin
            case walk =>
              dsimp only [List.take]
              clear HC HD HG t0 t1
              refine q_run (v := .pointer (some ⟨w.heap.size, 0, none⟩)) (by rfl) ?_ ?_
              · (intro w1 hC; obtain ⟨⟨t0, t1⟩, ⟨x0, x1, x2, x3⟩, -⟩ := hC; go_simp; first | done | (simp; done) | (simp [*]; done) | omega | (simp; omega) | (rw [IntKind.wrap_i64]; omega) | (intro hx; omega) | rfl)
              simp only [Act.put, List.setIfInBounds_toArray, List.set_cons_zero, List.set_cons_succ]
              refine q_run (v := .int .i64 F) (by rfl) ?_ ?_
              · (intro w1 hC; obtain ⟨⟨t0, t1⟩, ⟨x0, x1, x2, x3⟩, -⟩ := hC; go_simp; first | done | (simp; done) | (simp [*]; done) | omega | (simp; omega) | (rw [IntKind.wrap_i64]; omega) | (intro hx; omega) | rfl)
              simp only [Act.put, List.setIfInBounds_toArray, List.set_cons_zero, List.set_cons_succ]
              refine q_run (v := .pointer (some ⟨w.heap.size, 1, none⟩)) (by rfl) ?_ ?_
              · (intro w1 hC; obtain ⟨⟨t0, t1⟩, ⟨x0, x1, x2, x3⟩, -⟩ := hC; go_simp; first | done | (simp; done) | (simp [*]; done) | omega | (simp; omega) | (rw [IntKind.wrap_i64]; omega) | (intro hx; omega) | rfl)
              simp only [Act.put, List.setIfInBounds_toArray, List.set_cons_zero, List.set_cons_succ]
              refine q_run (v := .slice (some ⟨b, off, none⟩) l.length c) (by rfl) ?_ ?_
              · (intro w1 hC; obtain ⟨⟨t0, t1⟩, ⟨x0, x1, x2, x3⟩, -⟩ := hC; go_simp; first | done | (simp; done) | (simp [*]; done) | omega | (simp; omega) | (rw [IntKind.wrap_i64]; omega) | (intro hx; omega) | rfl)
              simp only [Act.put, List.setIfInBounds_toArray, List.set_cons_zero, List.set_cons_succ]
              refine q_run (v := .int .i64 (k : Int)) (by rfl) ?_ ?_
              · (intro w1 hC; obtain ⟨⟨t0, t1⟩, ⟨x0, x1, x2, x3⟩, -⟩ := hC; go_simp; first | done | (simp; done) | (simp [*]; done) | omega | (simp; omega) | (rw [IntKind.wrap_i64]; omega) | (intro hx; omega) | rfl)
              simp only [Act.put, List.setIfInBounds_toArray, List.set_cons_zero, List.set_cons_succ]
              refine q_run (v := .pointer (some ⟨b, off + k * 4, none⟩)) (by rfl) ?_ ?_
              · (intro w1 hC; obtain ⟨⟨t0, t1⟩, ⟨x0, x1, x2, x3⟩, -⟩ := hC; go_simp; first | done | (simp; done) | (simp [*]; done) | omega | (simp; omega) | (rw [IntKind.wrap_i64]; omega) | (intro hx; omega) | rfl)
              simp only [Act.put, List.setIfInBounds_toArray, List.set_cons_zero, List.set_cons_succ]
              refine q_run (v := .agg #[.int .u64 (hI px), .int .u64 (lI px), .int .i64 pn, .int .i64 ph]) (by rfl) ?_ ?_
              · (intro w1 hC; obtain ⟨⟨t0, t1⟩, ⟨x0, x1, x2, x3⟩, -⟩ := hC; go_simp; first | done | (simp; done) | (simp [*]; done) | omega | (simp; omega) | (rw [IntKind.wrap_i64]; omega) | (intro hx; omega) | rfl)
              simp only [Act.put, List.setIfInBounds_toArray, List.set_cons_zero, List.set_cons_succ]
              refine q_call (v := .int .i64 ce) (f := 23) (args := #[.int .i64 F, .agg #[.int .u64 (hI px), .int .u64 (lI px), .int .i64 pn, .int .i64 ph]]) (by rfl) ?_ ?_ ?_
              · (intro w1 hC; clear hC; go_simp)
              · exact fun w1 hC => (KC w1).mono fun e w' ⟨he, hb⟩ => ⟨he, hC.below hb⟩
              simp only [Act.put, List.setIfInBounds_toArray, List.set_cons_zero, List.set_cons_succ]
              refine q_run (v := .int .i64 ce) (by rfl) ?_ ?_
              · (intro w1 hC; obtain ⟨⟨t0, t1⟩, ⟨x0, x1, x2, x3⟩, -⟩ := hC; go_simp; first | done | (simp; done) | (simp [*]; done) | omega | (simp; omega) | (rw [IntKind.wrap_i64]; omega) | (intro hx; omega) | rfl)
              simp only [Act.put, List.setIfInBounds_toArray, List.set_cons_zero, List.set_cons_succ]
              refine wpQuiet_nil ?_
              simp only [putAll, Act.put, List.setIfInBounds_toArray, List.set_cons_zero, List.set_cons_succ]
            case fin =>
              intro W hC
              simp only [putAll, Act.put, List.setIfInBounds_toArray, List.set_cons_zero, List.set_cons_succ]
              dsimp only [List.drop]
              have HT := hidR hC.1
              have HB := hidR hC.2.2
              clear hC HC KC t0 t1
              have mk : IntKind.i64.wrap ((k : Int) + 1) = (k : Int) + 1 := by rw [IntKind.wrap_i64]; omega
              by_cases hce : ce = 0
              · subst hce
                go_wp2
                go_roundw
                case rel => exact ⟨k + 1, by omega, by go_num, hidR (by rw [← HG.out, HD.out]; simp), HT, HB⟩
                case measure => simp [intOf]; omega
              · have hn : (ce != 0) = true := by simp [hce]
                have HE : Hid (TabE F l ce) := hidR (by
                  have e1 : rtsE F l = ce := by rw [HRE.out, ← HG.out, HD.out, if_neg hce]
                  unfold TabE
                  rw [e1]
                  exact ⟨fun _ => rfl, fun h => absurd h hce⟩)
                clear HG HD HRE HT
                go_wp2
                go_ret
                exact ⟨⟨ce, HE.out, rfl⟩, HB.out⟩
        · have hd : ¬ k < l.length := by omega
          have HZ : Hid (rtsE F l = 0) := hidR (by rw [HRE.out, ← HG.out, List.drop_eq_nil_of_le (by omega)]; rfl)
          clear HG HRE
          go_wp2_with fail
          go_loopw [5] (fun i wr => ∃ k1 p : Nat, k1 = p + 1 ∧ p ≤ l.length ∧ i = .int .i64 k1 ∧ Hid (∀ (a : Nat) (h : a + 1 < l.length), a < p → pcmpZ l[a].1.1 l[a].1.2 l[a + 1].1.1 l[a + 1].1.2 < 0) ∧ Hid (AtT wr w.heap.size F (.slice ao l.length c)) ∧ Hid (Below w.heap.size w wr)) (fun i _ => l.length - (intOf i).toNat)
          case atStart => exact ⟨1, 0, rfl, by omega, rfl, hidR fun a h g => by omega, HT, HB⟩
          case round =>
            clear HT HB t0 t1
            obtain ⟨k1, p, hkp, hp, rfl, HG, HT, HB⟩ := hrel
            obtain ⟨t0, t1⟩ := HT.out
            by_cases hlt : (k1 : Int) < (l.length : Int)
            · have hks : k1 < l.length := by omega
              have hps : p < l.length := by omega
              rcases HV.out with e | ⟨b, off, rfl, hc⟩
              · rw [e] at hks; simp at hks
              · obtain ⟨x0, x1, x2, x3⟩ := rwr_cells hc p hps
                obtain ⟨y0, y1, y2, y3⟩ := rwr_cells hc k1 hks
                have HC := hidR (C14.drew ⟨HT.out, ⟨keepc HB.out x0, keepc HB.out x1, keepc HB.out x2, keepc HB.out x3⟩, ⟨keepc HB.out y0, keepc HB.out y1, keepc HB.out y2, keepc HB.out y3⟩, HB.out⟩ : C14 w F (.slice (some ⟨b, off, none⟩) l.length c) b (off + p * 4) (off + k1 * 4) l[p].1.1 l[p].1.2 l[p].2 l[k1].1.1 l[k1].1.2 l[k1].2 wr.drew)
                have KZ := fun w => rpcmp_any l[p].1.1 l[p].1.2 l[k1].1.1 l[k1].1.2 w
                have HD : Hid (∀ z, z = pcmpZ l[p].1.1 l[p].1.2 l[k1].1.1 l[k1].1.2 → (z < 0 → ∀ (a : Nat) (h : a + 1 < l.length), a < k1 → pcmpZ l[a].1.1 l[a].1.2 l[a + 1].1.1 l[a + 1].1.2 < 0) ∧ (¬ z < 0 → ¬ Adj l)) := hidR (by
                  rintro z rfl
                  subst hkp
                  refine ⟨fun hz a h ha => ?_, fun hz hA => hz (hA p hks)⟩
                  rcases Nat.lt_or_eq_of_le (Nat.le_of_lt_succ ha) with q | q
                  · exact HG.out a h q
                  · subst q; exact hz)
                clear x0 x1 x2 x3 y0 y1 y2 y3 hc HV HT HB HG
                have HD2 := hidR (HD.out _ rfl)
                clear HD
                revert KZ HD2 HC
                generalize pcmpZ l[p].1.1 l[p].1.2 l[k1].1.1 l[k1].1.2 = cz
                generalize l[p].1.1 = px
                generalize l[p].1.2 = pn
                generalize l[p].2 = ph
                generalize l[k1].1.1 = qx
                generalize l[k1].1.2 = qn
                generalize l[k1].2 = qh
                intro HC KZ HD2
                have ms : IntKind.i64.wrap ((k1 : Int) - 1) = (p : Int) := by rw [IntKind.wrap_i64]; omega
                clear hkp
                go_wp2_with fail
                refine qp_region2 15 (qpOk 15 15 (by decide) (fun N => by kernel_rfl) (by kernel_rfl) (by kernel_rfl) (by kernel_rfl) (by kernel_rfl)) (C := C14 w F (.slice (some ⟨b, off, none⟩) l.length c) b (off + p * 4) (off + k1 * 4) px pn ph qx qn qh) [some 39, some 40, some 41, some 42, some 43, some 44, some 45, some 46, some 47, some 48, some 49, some 50, some 51, some 52, some 53] [.pointer (some ⟨w.heap.size, 1, none⟩), .slice (some ⟨b, off, none⟩) l.length c, .int .i64 (k1 : Int), .int .i64 (p : Int), .pointer (some ⟨b, off + p * 4, none⟩), .pointer (some ⟨b, off + p * 4, none⟩), .agg #[.int .u64 (hI px), .int .u64 (lI px), .int .i64 pn], .pointer (some ⟨w.heap.size, 1, none⟩), .slice (some ⟨b, off, none⟩) l.length c, .int .i64 (k1 : Int), .pointer (some ⟨b, off + k1 * 4, none⟩), .pointer (some ⟨b, off + k1 * 4, none⟩), .agg #[.int .u64 (hI qx), .int .u64 (lI qx), .int .i64 qn], .int .i64 cz, .bool (decide (0 ≤ cz))] (by kernel_rfl) HC.out ?walk ?fin
                case walk =>
                  dsimp only [List.take]
                  clear HC HD2 t0 t1
                  refine q_run (v := .pointer (some ⟨w.heap.size, 1, none⟩)) (by rfl) ?_ ?_
                  · (intro w1 hC; obtain ⟨⟨t0, t1⟩, ⟨x0, x1, x2, -⟩, ⟨y0, y1, y2, -⟩, -⟩ := hC; go_simp; first | done | (simp; done) | (simp [*]; done) | omega | (simp; omega) | (rw [IntKind.wrap_i64]; omega) | (intro hx; omega) | rfl)
                  simp only [Act.put, List.setIfInBounds_toArray, List.set_cons_zero, List.set_cons_succ]
                  refine q_run (v := .slice (some ⟨b, off, none⟩) l.length c) (by rfl) ?_ ?_
                  · (intro w1 hC; obtain ⟨⟨t0, t1⟩, ⟨x0, x1, x2, -⟩, ⟨y0, y1, y2, -⟩, -⟩ := hC; go_simp; first | done | (simp; done) | (simp [*]; done) | omega | (simp; omega) | (rw [IntKind.wrap_i64]; omega) | (intro hx; omega) | rfl)
                  simp only [Act.put, List.setIfInBounds_toArray, List.set_cons_zero, List.set_cons_succ]
                  refine q_run (v := .int .i64 (k1 : Int)) (by rfl) ?_ ?_
                  · (intro w1 hC; obtain ⟨⟨t0, t1⟩, ⟨x0, x1, x2, -⟩, ⟨y0, y1, y2, -⟩, -⟩ := hC; go_simp; first | done | (simp; done) | (simp [*]; done) | omega | (simp; omega) | (rw [IntKind.wrap_i64]; omega) | (intro hx; omega) | rfl)
                  simp only [Act.put, List.setIfInBounds_toArray, List.set_cons_zero, List.set_cons_succ]
                  refine q_run (v := .int .i64 (p : Int)) (by rfl) ?_ ?_
                  · (intro w1 hC; obtain ⟨⟨t0, t1⟩, ⟨x0, x1, x2, -⟩, ⟨y0, y1, y2, -⟩, -⟩ := hC; go_simp; first | done | (simp; done) | (simp [*]; done) | omega | (simp; omega) | (rw [IntKind.wrap_i64]; omega) | (intro hx; omega) | rfl)
                  simp only [Act.put, List.setIfInBounds_toArray, List.set_cons_zero, List.set_cons_succ]
                  refine q_run (v := .pointer (some ⟨b, off + p * 4, none⟩)) (by rfl) ?_ ?_
                  · (intro w1 hC; obtain ⟨⟨t0, t1⟩, ⟨x0, x1, x2, -⟩, ⟨y0, y1, y2, -⟩, -⟩ := hC; go_simp; first | done | (simp; done) | (simp [*]; done) | omega | (simp; omega) | (rw [IntKind.wrap_i64]; omega) | (intro hx; omega) | rfl)
                  simp only [Act.put, List.setIfInBounds_toArray, List.set_cons_zero, List.set_cons_succ]
                  refine q_run (v := .pointer (some ⟨b, off + p * 4, none⟩)) (by rfl) ?_ ?_
                  · (intro w1 hC; obtain ⟨⟨t0, t1⟩, ⟨x0, x1, x2, -⟩, ⟨y0, y1, y2, -⟩, -⟩ := hC; go_simp; first | done | (simp; done) | (simp [*]; done) | omega | (simp; omega) | (rw [IntKind.wrap_i64]; omega) | (intro hx; omega) | rfl)
                  simp only [Act.put, List.setIfInBounds_toArray, List.set_cons_zero, List.set_cons_succ]
                  refine q_run (v := .agg #[.int .u64 (hI px), .int .u64 (lI px), .int .i64 pn]) (by rfl) ?_ ?_
                  · (intro w1 hC; obtain ⟨⟨t0, t1⟩, ⟨x0, x1, x2, -⟩, ⟨y0, y1, y2, -⟩, -⟩ := hC; go_simp; first | done | (simp; done) | (simp [*]; done) | omega | (simp; omega) | (rw [IntKind.wrap_i64]; omega) | (intro hx; omega) | rfl)
                  simp only [Act.put, List.setIfInBounds_toArray, List.set_cons_zero, List.set_cons_succ]
                  refine q_run (v := .pointer (some ⟨w.heap.size, 1, none⟩)) (by rfl) ?_ ?_
                  · (intro w1 hC; obtain ⟨⟨t0, t1⟩, ⟨x0, x1, x2, -⟩, ⟨y0, y1, y2, -⟩, -⟩ := hC; go_simp; first | done | (simp; done) | (simp [*]; done) | omega | (simp; omega) | (rw [IntKind.wrap_i64]; omega) | (intro hx; omega) | rfl)
                  simp only [Act.put, List.setIfInBounds_toArray, List.set_cons_zero, List.set_cons_succ]
                  refine q_run (v := .slice (some ⟨b, off, none⟩) l.length c) (by rfl) ?_ ?_
                  · (intro w1 hC; obtain ⟨⟨t0, t1⟩, ⟨x0, x1, x2, -⟩, ⟨y0, y1, y2, -⟩, -⟩ := hC; go_simp; first | done | (simp; done) | (simp [*]; done) | omega | (simp; omega) | (rw [IntKind.wrap_i64]; omega) | (intro hx; omega) | rfl)
                  simp only [Act.put, List.setIfInBounds_toArray, List.set_cons_zero, List.set_cons_succ]
                  refine q_run (v := .int .i64 (k1 : Int)) (by rfl) ?_ ?_
                  · (intro w1 hC; obtain ⟨⟨t0, t1⟩, ⟨x0, x1, x2, -⟩, ⟨y0, y1, y2, -⟩, -⟩ := hC; go_simp; first | done | (simp; done) | (simp [*]; done) | omega | (simp; omega) | (rw [IntKind.wrap_i64]; omega) | (intro hx; omega) | rfl)
                  simp only [Act.put, List.setIfInBounds_toArray, List.set_cons_zero, List.set_cons_succ]
                  refine q_run (v := .pointer (some ⟨b, off + k1 * 4, none⟩)) (by rfl) ?_ ?_
                  · (intro w1 hC; obtain ⟨⟨t0, t1⟩, ⟨x0, x1, x2, -⟩, ⟨y0, y1, y2, -⟩, -⟩ := hC; go_simp; first | done | (simp; done) | (simp [*]; done) | omega | (simp; omega) | (rw [IntKind.wrap_i64]; omega) | (intro hx; omega) | rfl)
                  simp only [Act.put, List.setIfInBounds_toArray, List.set_cons_zero, List.set_cons_succ]
                  refine q_run (v := .pointer (some ⟨b, off + k1 * 4, none⟩)) (by rfl) ?_ ?_
                  · (intro w1 hC; obtain ⟨⟨t0, t1⟩, ⟨x0, x1, x2, -⟩, ⟨y0, y1, y2, -⟩, -⟩ := hC; go_simp; first | done | (simp; done) | (simp [*]; done) | omega | (simp; omega) | (rw [IntKind.wrap_i64]; omega) | (intro hx; omega) | rfl)
                  simp only [Act.put, List.setIfInBounds_toArray, List.set_cons_zero, List.set_cons_succ]
                  refine q_run (v := .agg #[.int .u64 (hI qx), .int .u64 (lI qx), .int .i64 qn]) (by rfl) ?_ ?_
                  · (intro w1 hC; obtain ⟨⟨t0, t1⟩, ⟨x0, x1, x2, -⟩, ⟨y0, y1, y2, -⟩, -⟩ := hC; go_simp; first | done | (simp; done) | (simp [*]; done) | omega | (simp; omega) | (rw [IntKind.wrap_i64]; omega) | (intro hx; omega) | rfl)
                  simp only [Act.put, List.setIfInBounds_toArray, List.set_cons_zero, List.set_cons_succ]
                  refine q_call (v := .int .i64 cz) (f := 40) (args := #[.agg #[.int .u64 (hI px), .int .u64 (lI px), .int .i64 pn], .agg #[.int .u64 (hI qx), .int .u64 (lI qx), .int .i64 qn]]) (by rfl) ?_ ?_ ?_
                  · (intro w1 hC; clear hC; go_simp)
                  · exact fun w1 hC => (KZ w1).mono fun e w' ⟨he, hb⟩ => ⟨he, hC.below hb⟩
                  simp only [Act.put, List.setIfInBounds_toArray, List.set_cons_zero, List.set_cons_succ]
                  refine q_run (v := .bool (decide (0 ≤ cz))) (by rfl) ?_ ?_
                  · (intro w1 hC; obtain ⟨⟨t0, t1⟩, ⟨x0, x1, x2, -⟩, ⟨y0, y1, y2, -⟩, -⟩ := hC; go_simp; first | done | (simp; done) | (simp [*]; done) | omega | (simp; omega) | (rw [IntKind.wrap_i64]; omega) | (intro hx; omega) | rfl)
                  simp only [Act.put, List.setIfInBounds_toArray, List.set_cons_zero, List.set_cons_succ]
                  refine wpQuiet_nil ?_
                  simp only [putAll, Act.put, List.setIfInBounds_toArray, List.set_cons_zero, List.set_cons_succ]
                case fin =>
                  intro W hC
                  simp only [putAll, Act.put, List.setIfInBounds_toArray, List.set_cons_zero, List.set_cons_succ]
                  dsimp only [List.drop]
                  have HT := hidR hC.1
                  have HB := hidR hC.2.2.2
                  clear hC HC KZ t0 t1 ms
                  have mk : IntKind.i64.wrap ((k1 : Int) + 1) = (k1 : Int) + 1 := by rw [IntKind.wrap_i64]; omega
                  by_cases hz : cz < 0
                  · have hz' : ¬ 0 ≤ cz := by omega
                    have HG := hidR (HD2.out.1 hz)
                    clear HD2
                    go_wp2
                    go_roundw
                    case rel => exact ⟨k1 + 1, k1, rfl, by omega, by go_num, HG, HT, HB⟩
                    case measure => simp [intOf]; omega
                  · have hz' : 0 ≤ cz := by omega
                    have HE : Hid (TabE F l 19) := hidR ⟨fun h => absurd HZ.out h, fun _ => .inr ⟨HD2.out.2 (by omega), rfl⟩⟩
                    clear HD2 HT HZ
                    go_wp2
                    go_ret
                    exact ⟨⟨19, HE.out, rfl⟩, HB.out⟩
            · have HE : Hid (TabE F l 0) := hidR ⟨fun h => absurd HZ.out h, fun _ => .inl ⟨fun a h => HG.out a h (by omega), rfl⟩⟩
              have hd : ¬ k1 < l.length := by omega
              clear HZ HG HT
              go_wp2
              go_ret
              exact ⟨⟨0, HE.out, rfl⟩, HB.out⟩
end Go.Proofs.Ytohnhpicjedfeaa
namespace Go.Proofs.Ytohnhpicjedfeaa
open Go.RowKit

theorem ord_adj {l : List Rte} (h : Adj l) : OrdR l := by
  intro a b hb hab
  induction b with
  | zero => omega
  | succ b ih =>
    have h1 := (pcmp_lt _ _ _ _).1 (h b hb)
    rcases Nat.lt_or_eq_of_le (Nat.le_of_lt_succ hab) with q | q
    · have h2 := (pcmp_lt _ _ _ _).1 (ih (by omega) q)
      refine (pcmp_lt _ _ _ _).2 ?_
      omega
    · subst q
      exact h a hb
end Go.Proofs.Ytohnhpicjedfeaa
namespace Go.Proofs.Ytohnhpicjedfeaa
open Go.RowKit
set_option linter.unusedSimpArgs false
set_option linter.unusedVariables false

theorem cut_le (x : BitVec 128) (n : Int) : (cutW x n).toNat ≤ x.toNat := by
  rw [cut_nat]; exact Nat.div_mul_le_self _ _
end Go.Proofs.Ytohnhpicjedfeaa
namespace Go.Proofs.Ytohnhpicjedfeaa
open Go.RowKit
set_option linter.unusedSimpArgs false
set_option linter.unusedVariables false

def inR (px : BitVec 128) (pn : Int) (r : Rte) : Bool := withinB px pn r.1.1 r.1.2
def RtR (F : Int) (l : List Rte) : Prop := ∀ r ∈ l, Rt F r.1.1 r.1.2
theorem toP_le {y : BitVec 128} {m : Int} {l : List Rte} (hO : OrdR l) {k : Nat} (h : UpTo y m l k) : ∀ (j : Nat) (hj : j < l.length), j < k ↔ pcmpZ l[j].1.1 l[j].1.2 y m ≤ 0 := by
  obtain ⟨hk, i, ok, ⟨h1, h2, h3⟩, h4⟩ := h
  intro j hj
  have hj2 := h2 j hj
  unfold toP at hj2 h3
  constructor
  · intro hjk
    by_cases c : j < i
    · have := hj2.mp c; omega
    · have hji : j = i := by
        rw [h4] at hjk
        split at hjk <;> omega
      subst hji
      have hok : ok = true := by
        cases ok with
        | true => rfl
        | false => rw [h4, if_neg (by simp)] at hjk; omega
      rw [hok, List.getElem?_eq_getElem hj] at h3
      have := of_decide_eq_true h3.symm
      omega
  · intro hle
    by_cases c : j < i
    · rw [h4]; split <;> omega
    · by_cases c2 : pcmpZ l[j].1.1 l[j].1.2 y m < 0
      · exact absurd (hj2.mpr c2) c
      · have h0 : pcmpZ l[j].1.1 l[j].1.2 y m = 0 := by omega
        by_cases c3 : j = i
        · subst c3
          rw [List.getElem?_eq_getElem hj] at h3
          have : ok = true := by rw [h3]; exact decide_eq_true h0
          rw [h4, if_pos this]; omega
        · exfalso
          have hij : i < j := by omega
          have hi := hO i j hj hij
          have e := (pcmp_eq0 _ _ _ _).mp h0
          have hi2 := h2 i (by omega)
          unfold toP at hi2
          rw [← e.1, ← e.2] at hi2
          have := hi2.mpr hi
          omega
theorem in_le {F : Int} {px : BitVec 128} {pn : Int} {r : Rte} (hr : Rt F r.1.1 r.1.2) (h : withinB px pn r.1.1 r.1.2 = true) : pcmpZ r.1.1 r.1.2 px pn ≤ 0 := by
  obtain ⟨h1, h2⟩ := (within_iff _ _ _ _).mp h
  rw [pcmp_le]
  have := cut_le px r.1.2
  rw [h2] at this
  by_cases c : r.1.1.toNat < px.toNat
  · exact .inl c
  · exact .inr ⟨BitVec.eq_of_toNat_eq (by omega), h1⟩
theorem within_trans {F : Int} {x : BitVec 128} {n : Int} {y : BitVec 128} {m : Int} {z : BitVec 128} {k : Int} (hz : 0 ≤ k) (h1 : withinB x n y m = true) (h2 : withinB y m z k = true) : withinB x n z k = true := by
  obtain ⟨a1, a2⟩ := (within_iff _ _ _ _).mp h1
  obtain ⟨b1, b2⟩ := (within_iff _ _ _ _).mp h2
  refine (within_iff _ _ _ _).mpr ⟨by omega, ?_⟩
  rw [← b2, ← a2, cut_cut _ _ _ hz b1]
structure UpS (F : Int) (l : List Rte) (px : BitVec 128) (pn : Int) (nx : BitVec 128) (nn : Int) (k : Nat) (pre : List Rte) : Prop where
  kl : k ≤ l.length
  nr : Rt F nx nn
  pw : withinB px pn nx nn = true
  le : ∀ (j : Nat) (hj : j < l.length), j < k → pcmpZ l[j].1.1 l[j].1.2 nx nn ≤ 0
  has : ∀ (j : Nat) (hj : j < l.length), j < k → inR px pn l[j] = true → withinB nx nn l[j].1.1 l[j].1.2 = true
  pr : pre = ((l.drop k).filter (inR px pn)).reverse
theorem filter_none {px : BitVec 128} {pn : Int} {l : List Rte} : ∀ (d k : Nat), k + d ≤ l.length → (∀ (j : Nat) (hj : j < l.length), k ≤ j → j < k + d → inR px pn l[j] = false) → (l.drop k).filter (inR px pn) = (l.drop (k + d)).filter (inR px pn)
  | 0, k, _, _ => rfl
  | d + 1, k, hk, h => by
    have hkl : k < l.length := by omega
    rw [List.drop_eq_getElem_cons hkl, List.filter_cons_of_neg (by rw [h k hkl (by omega) (by omega)]; simp), filter_none d (k + 1) (by omega) (fun j hj h1 h2 => h j hj (by omega) (by omega)), show k + 1 + d = k + (d + 1) by omega]
theorem up_first {F : Int} {l : List Rte} {px : BitVec 128} {pn : Int} {k : Nat} (hO : OrdR l) (hR : RtR F l) (hp : Rt F px pn) (hk : UpTo px pn l k) : UpS F l px pn px pn k [] := by
  have hj := toP_le hO hk
  have self : withinB px pn px pn = true := (within_iff _ _ _ _).mpr ⟨Int.le_refl _, hp.2.2⟩
  refine ⟨hk.1, hp, self, fun j h1 h2 => (hj j h1).mp h2, fun j h1 _ h3 => h3, ?_⟩
  have e := filter_none (px := px) (pn := pn) (l := l) (l.length - k) k (by have := hk.1; omega) (fun j h1 h2 _ => by
    cases h : inR px pn l[j] with
    | false => rfl
    | true =>
      have := (hj j h1).mpr (in_le (hR _ (List.getElem_mem h1)) h)
      omega)
  rw [e, show k + (l.length - k) = l.length by have := hk.1; omega, List.drop_length]
  rfl
theorem up_step {F : Int} {l : List Rte} {px : BitVec 128} {pn : Int} {nx : BitVec 128} {nn : Int} {k : Nat} {pre : List Rte} (hF : F ≤ 128) (hO : OrdR l) (hR : RtR F l) (hp : Rt F px pn) (s : UpS F l px pn nx nn (k + 1) pre) {k' : Nat} (hk : k < l.length)
    (hU : UpTo (cutW nx (meetN nx nn l[k].1.1 l[k].1.2)) (meetN nx nn l[k].1.1 l[k].1.2) (l.take k) k') :
    withinB nx nn l[k].1.1 l[k].1.2 = inR px pn l[k] ∧ UpS F l px pn (cutW nx (meetN nx nn l[k].1.1 l[k].1.2)) (meetN nx nn l[k].1.1 l[k].1.2) k' (pre ++ if inR px pn l[k] = true then [l[k]] else []) := by
  obtain ⟨rx, rn, hrr⟩ : ∃ rx rn, rx = l[k].1.1 ∧ rn = l[k].1.2 := ⟨_, _, rfl, rfl⟩
  have hr : Rt F l[k].1.1 l[k].1.2 := hR _ (List.getElem_mem hk)
  have hn := s.nr
  have same : withinB nx nn l[k].1.1 l[k].1.2 = inR px pn l[k] := by
    cases h : inR px pn l[k] with
    | true => exact s.has k hk (by omega) h
    | false =>
      cases h2 : withinB nx nn l[k].1.1 l[k].1.2 with
      | false => rfl
      | true =>
        have := within_trans (F := F) hr.1 s.pw h2
        unfold inR at h
        rw [this] at h; cases h
  refine ⟨same, ?_⟩
  have m0 := meetN_nn nx nn l[k].1.1 l[k].1.2 hn.1 hr.1
  have ml := meetN_le nx nn l[k].1.1 l[k].1.2
  have nin : withinB nx nn (cutW nx (meetN nx nn l[k].1.1 l[k].1.2)) (meetN nx nn l[k].1.1 l[k].1.2) = true := (within_iff _ _ _ _).mpr ⟨ml.1, rfl⟩
  have nrt : Rt F (cutW nx (meetN nx nn l[k].1.1 l[k].1.2)) (meetN nx nn l[k].1.1 l[k].1.2) := ⟨m0, by have := hn.2.1; omega, cut_cut _ _ _ m0 (Int.le_refl _)⟩
  have hOt : OrdR (l.take k) := fun a b hb hab => by
    rw [List.length_take] at hb
    have := hO a b (by omega) hab
    simpa [List.getElem_take] using this
  have hlt : (l.take k).length = k := by rw [List.length_take]; omega
  have hj := toP_le hOt hU
  have hk' : k' ≤ k := by have := hU.1; omega
  -- a route further ahead that has the prefix has what is near now
  have key : ∀ (j : Nat) (hjl : j < l.length), j < k → inR px pn l[j] = true → withinB (cutW nx (meetN nx nn l[k].1.1 l[k].1.2)) (meetN nx nn l[k].1.1 l[k].1.2) l[j].1.1 l[j].1.2 = true := by
    intro j hjl hjk hin
    have hrj : Rt F l[j].1.1 l[j].1.2 := hR _ (List.getElem_mem hjl)
    have w1 := s.has j hjl (by omega) hin
    have o1 := hO j k hk hjk
    have o2 := s.le k hk (by omega)
    have w2 := between F l[j].1.1 l[j].1.2 l[k].1.1 l[k].1.2 nx nn hrj hr (by omega) o2 w1
    exact meet_above nx nn l[k].1.1 l[k].1.2 l[j].1.1 l[j].1.2 hrj.1 (by have := hn.2.1; omega) w1 w2
  refine ⟨by omega, nrt, within_trans (F := F) m0 s.pw nin, fun j h1 h2 => ?_, fun j h1 h2 h3 => key j h1 (by omega) h3, ?_⟩
  · have := (hj j (by omega)).mp h2
    simpa [List.getElem_take] using this
  · have e := filter_none (px := px) (pn := pn) (l := l) (k - k') k' (by omega) (fun j h1 h2 h3 => by
      cases h : inR px pn l[j] with
      | false => rfl
      | true =>
        have q := in_le (hR _ (List.getElem_mem h1)) (key j h1 (by omega) h)
        have := (hj j (by omega)).mpr (by simpa [List.getElem_take] using q)
        omega)
    rw [e, show k' + (k - k') = k by omega, s.pr, List.drop_eq_getElem_cons hk]
    by_cases c : inR px pn l[k] = true
    · rw [List.filter_cons_of_pos c, if_pos c]; simp
    · rw [List.filter_cons_of_neg c, if_neg c]; simp
theorem up_end {F : Int} {l : List Rte} {px : BitVec 128} {pn : Int} {nx : BitVec 128} {nn : Int} {pre : List Rte} (s : UpS F l px pn nx nn 0 pre) : pre = (l.filter (inR px pn)).reverse := by
  have := s.pr
  rwa [List.drop_zero] at this
end Go.Proofs.Ytohnhpicjedfeaa
namespace Go.Proofs.Ytohnhpicjedfeaa
open Go.RowKit
set_option linter.unusedSimpArgs false
set_option linter.unusedVariables false

def OrdP5 (l : List Rte) : Prop := l.Pairwise (fun a b => cmR a b < 0)
theorem ordP_of {l : List Rte} (h : OrdR l) : OrdP5 l := List.pairwise_iff_getElem.mpr (fun i j hi hj hij => h i j hj hij)
theorem ord_ofP {l : List Rte} (h : OrdP5 l) : OrdR l := fun a b hb hab => List.pairwise_iff_getElem.mp h a b (by omega) hb hab
theorem cm_tr {x y z : Rte} (h1 : cmR x y < 0) (h2 : cmR y z < 0) : cmR x z < 0 := by
  rw [cm_kl] at h1 h2 ⊢
  exact kl_trans h1 h2
theorem cm_same {x y z : Rte} (h : x.1 = y.1) : cmR x z = cmR y z := by unfold cmR; rw [h]
theorem setV_spec (r : Rte) : ∀ (l : List Rte), l.Pairwise (fun a b => cmR b a < 0) →
    (∃ A B, l = A ++ B ∧ setV l r = A ++ r :: B ∧ (∀ a ∈ A, cmR r a < 0) ∧ (∀ b ∈ B, cmR b r < 0)) ∨ (∃ A y B, l = A ++ y :: B ∧ setV l r = A ++ r :: B ∧ y.1 = r.1 ∧ (∀ a ∈ A, cmR r a < 0) ∧ (∀ b ∈ B, cmR b r < 0))
  | [], _ => .inl ⟨[], [], rfl, rfl, by simp, by simp⟩
  | y :: t, h => by
    obtain ⟨h1, h2⟩ := List.pairwise_cons.mp h
    by_cases c : cmR r y < 0
    · have e : setV (y :: t) r = y :: setV t r := if_pos c
      rcases setV_spec r t h2 with ⟨A, B, e1, e2, hA, hB⟩ | ⟨A, z, B, e1, e2, hz, hA, hB⟩
      · exact .inl ⟨y :: A, B, by rw [e1]; rfl, by rw [e, e2]; rfl, fun a ha => by rcases List.mem_cons.mp ha with q | q; rw [q]; exact c; exact hA a q, hB⟩
      · exact .inr ⟨y :: A, z, B, by rw [e1]; rfl, by rw [e, e2]; rfl, hz, fun a ha => by rcases List.mem_cons.mp ha with q | q; rw [q]; exact c; exact hA a q, hB⟩
    · have e : setV (y :: t) r = tellR (y :: t) r := if_neg c
      by_cases k : ((y.1.1 == r.1.1) && (y.1.2 == r.1.2)) = true
      · have hk := key_eq k
        exact .inr ⟨[], y, t, rfl, by rw [e, tell_eq r y t k]; rfl, hk, by simp, fun b hb => by rw [← cm_key hk]; exact h1 b hb⟩
      · have hyr : cmR y r < 0 := by
          have hn := cm_neg y r
          have hz : cmR y r ≠ 0 := fun q => by
            have := (pcmp_eq0 _ _ _ _).1 q
            exact k (by simp [this.1, this.2])
          have hneg : cmR r y = - cmR y r := cm_neg y r
          omega
        exact .inl ⟨[], y :: t, rfl, by rw [e, tell_ne r y t (by simpa using k)]; rfl, by simp, fun b hb => by
          rcases List.mem_cons.mp hb with q | q
          · rw [q]; exact hyr
          · exact cm_tr (h1 b q) hyr⟩
theorem ordP_rev {l : List Rte} (h : OrdP5 l) : l.reverse.Pairwise (fun a b => cmR b a < 0) := List.pairwise_reverse.mpr h
theorem setF_spec (r : Rte) (l : List Rte) (h : OrdP5 l) :
    (∃ A B, l = A ++ B ∧ setF l r = A ++ r :: B ∧ (∀ a ∈ A, cmR a r < 0) ∧ (∀ b ∈ B, cmR r b < 0)) ∨ (∃ A y B, l = A ++ y :: B ∧ setF l r = A ++ r :: B ∧ y.1 = r.1 ∧ (∀ a ∈ A, cmR a r < 0) ∧ (∀ b ∈ B, cmR r b < 0)) := by
  rcases setV_spec r l.reverse (ordP_rev h) with ⟨A, B, e1, e2, hA, hB⟩ | ⟨A, y, B, e1, e2, hy, hA, hB⟩
  · refine .inl ⟨B.reverse, A.reverse, ?_, ?_, fun a ha => hB a (List.mem_reverse.mp ha), fun b hb => hA b (List.mem_reverse.mp hb)⟩
    · have := congrArg List.reverse e1; simpa using this
    · unfold setF; rw [e2]; simp
  · refine .inr ⟨B.reverse, y, A.reverse, ?_, ?_, hy, fun a ha => hB a (List.mem_reverse.mp ha), fun b hb => hA b (List.mem_reverse.mp hb)⟩
    · have := congrArg List.reverse e1; simpa using this
    · unfold setF; rw [e2]; simp
theorem setF_ord (r : Rte) (l : List Rte) (h : OrdP5 l) : OrdP5 (setF l r) := by
  rcases setF_spec r l h with ⟨A, B, e1, e2, hA, hB⟩ | ⟨A, y, B, e1, e2, hy, hA, hB⟩
  · rw [e2]
    rw [e1] at h
    obtain ⟨p1, p2, p3⟩ := List.pairwise_append.mp h
    refine List.pairwise_append.mpr ⟨p1, List.pairwise_cons.mpr ⟨hB, p2⟩, fun a ha b hb => ?_⟩
    rcases List.mem_cons.mp hb with q | q
    · rw [q]; exact hA a ha
    · exact p3 a ha b q
  · rw [e2]
    rw [e1] at h
    obtain ⟨p1, p2, p3⟩ := List.pairwise_append.mp h
    refine List.pairwise_append.mpr ⟨p1, List.pairwise_cons.mpr ⟨hB, (List.pairwise_cons.mp p2).2⟩, fun a ha b hb => ?_⟩
    rcases List.mem_cons.mp hb with q | q
    · rw [q]; exact hA a ha
    · exact p3 a ha b (List.mem_cons_of_mem _ q)
theorem setF_mem (r : Rte) (l : List Rte) (h : OrdP5 l) : ∀ x ∈ setF l r, x = r ∨ x ∈ l := by
  intro x hx
  rcases setF_spec r l h with ⟨A, B, e1, e2, hA, hB⟩ | ⟨A, y, B, e1, e2, hy, hA, hB⟩
  · rw [e2] at hx
    rw [e1]
    rcases List.mem_append.mp hx with q | q
    · exact .inr (List.mem_append_left _ q)
    · rcases List.mem_cons.mp q with q | q
      · exact .inl q
      · exact .inr (List.mem_append_right _ q)
  · rw [e2] at hx
    rw [e1]
    rcases List.mem_append.mp hx with q | q
    · exact .inr (List.mem_append_left _ q)
    · rcases List.mem_cons.mp q with q | q
      · exact .inl q
      · exact .inr (List.mem_append_right _ (List.mem_cons_of_mem _ q))
theorem setF_filter (p : Rte → Bool) (hp : ∀ x y : Rte, x.1 = y.1 → p x = p y) (r : Rte) (l : List Rte) (h : OrdP5 l) (hr : p r = false) : (setF l r).filter p = l.filter p := by
  rcases setF_spec r l h with ⟨A, B, e1, e2, hA, hB⟩ | ⟨A, y, B, e1, e2, hy, hA, hB⟩
  · rw [e2, e1, List.filter_append, List.filter_append, List.filter_cons_of_neg (by rw [hr]; decide)]
  · have hy' : p y = false := by rw [hp y r hy]; exact hr
    rw [e2, e1, List.filter_append, List.filter_append, List.filter_cons_of_neg (by rw [hr]; decide), List.filter_cons_of_neg (by rw [hy']; decide)]
theorem setF_there (r : Rte) (l : List Rte) (h : OrdP5 l) : r ∈ setF l r := by
  rcases setF_spec r l h with ⟨A, B, e1, e2, hA, hB⟩ | ⟨A, y, B, e1, e2, hy, hA, hB⟩
  · rw [e2]; simp
  · rw [e2]; simp
theorem fold_ord : ∀ (l S : List Rte), OrdP5 (S ++ l) → l.foldl setF S = S ++ l
  | [], S, _ => by simp
  | r :: l, S, h => by
    have h' : OrdP5 ((S ++ [r]) ++ l) := by simpa using h
    have hS : OrdP5 S := (List.pairwise_append.mp h).1
    have e : setF S r = S ++ [r] := by
      rcases setF_spec r S hS with ⟨A, B, e1, e2, hA, hB⟩ | ⟨A, y, B, e1, e2, hy, hA, hB⟩
      · have hB0 : B = [] := by
          match B, hB, e1 with
          | [], _, _ => rfl
          | b :: B, hB, e1 =>
            exfalso
            have h1 := hB b List.mem_cons_self
            have h2 := (List.pairwise_append.mp h).2.2 b (by rw [e1]; simp) r List.mem_cons_self
            have := cm_tr h1 h2
            rw [cm_kl] at this
            exact kl_irr _ this
        subst hB0
        rw [e2, e1]; simp
      · exfalso
        have h2 := (List.pairwise_append.mp h).2.2 y (by rw [e1]; simp) r List.mem_cons_self
        rw [cm_same hy, cm_kl] at h2
        exact kl_irr _ h2
    rw [List.foldl_cons, e, fold_ord l (S ++ [r]) h']
    simp
theorem canon_one (l : List Rte) (r : Rte) (h : OrdR l) : (l ++ [r]).foldl setF [] = setF l r := by
  rw [List.foldl_append, fold_ord l [] (by simpa using ordP_of h)]
  simp
theorem del_filter (p : Rte → Bool) (l : List Rte) (k : Nat) (hk : k < l.length) (hp : p l[k] = false) : (l.take k ++ l.drop (k + 1)).filter p = l.filter p := by
  have e : l = l.take k ++ l[k] :: l.drop (k + 1) := by rw [← List.drop_eq_getElem_cons hk, List.take_append_drop]
  rw [List.filter_append]
  conv => rhs; rw [e]
  rw [List.filter_append, List.filter_cons_of_neg (by rw [hp]; decide)]
theorem del_ord (l : List Rte) (k : Nat) (h : OrdR l) : OrdR (l.take k ++ l.drop (k + 1)) := by
  refine ord_ofP ?_
  have hs : (l.take k ++ l.drop (k + 1)).Sublist l := by
    have e : l = l.take k ++ l.drop k := (List.take_append_drop k l).symm
    conv => rhs; rw [e]
    refine List.Sublist.append (List.Sublist.refl _) ?_
    rw [← List.drop_drop]
    exact List.drop_sublist _ _
  exact List.Pairwise.sublist hs (ordP_of h)
end Go.Proofs.Ytohnhpicjedfeaa
