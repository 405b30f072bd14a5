/-
  Part 24 of the proof: 1 texts, one behind the other.
-/
import Derived.Test.YtnaghiipfgdimaaPart23
import Derived.Test.YtnaghiipfgdimaaPart10
import Derived.Test.YtnaghiipfgdimaaPart5
import Derived.Test.YtnaghiipfgdimaaPart6
import Derived.Test.YtnaghiipfgdimaaPart18
/-
  What the calls of turnpikeref5's Match and Lookup do.
-/
namespace Go.Proofs.Ytnaghiipfgdimaa
open Go.RowKit
set_option linter.unusedSimpArgs false
set_option linter.unusedVariables false

/-- A route in a block that may be written. -/
def AtV (W : World) (B : Nat) (x : BitVec 128) (n h : Int) : Prop := AtR W B x n h ∧ W.frozen? ⟨B, 0, none⟩ = false ∧ W.frozen? ⟨B, 1, none⟩ = false ∧ W.frozen? ⟨B, 2, none⟩ = false ∧ W.frozen? ⟨B, 3, none⟩ = false
theorem AtV.heap {W W' : World} {B : Nat} {x : BitVec 128} {n h : Int} (k : AtV W B x n h) (e : W'.heap[B]? = W.heap[B]?) : AtV W' B x n h := by
  obtain ⟨k0, k1, k2, k3, k4⟩ := k
  exact ⟨k0.heap e, by rw [frozH e]; exact k1, by rw [frozH e]; exact k2, by rw [frozH e]; exact k3, by rw [frozH e]; exact k4⟩
theorem AtV.lt {W : World} {B : Nat} {x : BitVec 128} {n h : Int} (k : AtV W B x n h) : B < W.heap.size := cell_in k.1.1
theorem atv_new (W : World) (B : Nat) (x : BitVec 128) (n h : Int) (T : TypeId) (e : B = W.heap.size) : AtV (W.alloc (.cells #[.int .u64 (hI x), .int .u64 (lI x), .int .i64 n, .int .i64 h] T)) B x n h := by
  refine ⟨atr_new W B x n h T e, ?_, ?_, ?_, ?_⟩ <;> subst e <;> simp [go_sem]
theorem AtV.set4 {W : World} {B : Nat} {x : BitVec 128} {n h : Int} (k : AtV W B x n h) (y : BitVec 128) (m g : Int) : AtV ((((W.setCell ⟨B, 0, none⟩ (.int .u64 (hI y))).setCell ⟨B, 1, none⟩ (.int .u64 (lI y))).setCell ⟨B, 2, none⟩ (.int .i64 m)).setCell ⟨B, 3, none⟩ (.int .i64 g)) B y m g := by
  obtain ⟨⟨c0, c1, c2, c3⟩, k1, k2, k3, k4⟩ := k
  refine ⟨⟨?_, ?_, ?_, ?_⟩, ?_, ?_, ?_, ?_⟩ <;> simp [go_sem, c0, c1, c2, c3, k1, k2, k3, k4]
theorem hSet4 {W : World} {B : Nat} {u0 u1 u2 u3 : Value} {k : Nat} (h : ¬ k = B) : ((((W.setCell ⟨B, 0, none⟩ u0).setCell ⟨B, 1, none⟩ u1).setCell ⟨B, 2, none⟩ u2).setCell ⟨B, 3, none⟩ u3).heap[k]? = W.heap[k]? := by
  rw [hSet _ h, hSet _ h, hSet _ h, hSet _ h]
theorem bset4m {n C : Nat} {w W : World} (h : Below n w W) (hp : n ≤ C) (u0 u1 u2 u3 : Value) : Below n w ((((W.setCell ⟨C, 0, none⟩ u0).setCell ⟨C, 1, none⟩ u1).setCell ⟨C, 2, none⟩ u2).setCell ⟨C, 3, none⟩ u3) := (((h.setCell hp _).setCell hp _).setCell hp _).setCell hp _
/-- What is known between two rounds. -/
structure MtI (w : World) (F : Int) (v : Value) (x : BitVec 128) (bx : BitVec 128) (bn bh : Int) (W : World) : Prop where
  t : AtU W w.heap.size F v
  p : At W (w.heap.size + 1) x
  z : AtV W (w.heap.size + 2) 0#128 0 0
  b : AtV W (w.heap.size + 3) bx bn bh
  bel : Below w.heap.size w W
theorem MtI.below {w : World} {F : Int} {v : Value} {x : BitVec 128} {bx : BitVec 128} {bn bh : Int} {W W' : World} (k : MtI w F v x bx bn bh W) (hb : Below W.heap.size W W') : MtI w F v x bx bn bh W' :=
  ⟨k.t.heap (hb.block _ k.t.lt), k.p.below hb, k.z.heap (hb.block _ k.z.lt), k.b.heap (hb.block _ k.b.lt), keepb hb k.bel⟩
theorem MtI.take {w : World} {F : Int} {v : Value} {x : BitVec 128} {bx : BitVec 128} {bn bh : Int} {W : World} (k : MtI w F v x bx bn bh W) (y : BitVec 128) (m g : Int) : MtI w F v x y m g ((((W.setCell ⟨w.heap.size + 3, 0, none⟩ (.int .u64 (hI y))).setCell ⟨w.heap.size + 3, 1, none⟩ (.int .u64 (lI y))).setCell ⟨w.heap.size + 3, 2, none⟩ (.int .i64 m)).setCell ⟨w.heap.size + 3, 3, none⟩ (.int .i64 g)) := by
  have hb : Below W.heap.size W W := Below.refl _ _
  refine ⟨k.t.heap (hSet4 (by omega)), k.p.heap (hSet4 (by omega)) (by have := (bset4m (C := w.heap.size + 3) (Below.refl 0 W) (Nat.zero_le _) (.int .u64 (hI y)) (.int .u64 (lI y)) (.int .i64 m) (.int .i64 g)).size; exact this), k.z.heap (hSet4 (by omega)), k.b.set4 y m g, bset4m k.bel (by omega) _ _ _ _⟩
/-- What is known while one route is asked. -/
def MtC (P N B : Nat) (px : BitVec 128) (pn ph : Int) (x bx : BitVec 128) (bn bh : Int) (V W : World) : Prop := AtR W N px pn ph ∧ (W.cell? ⟨P, 0, none⟩ = some (.int .u64 (hI x)) ∧ W.cell? ⟨P, 1, none⟩ = some (.int .u64 (lI x))) ∧ AtR W B bx bn bh ∧ Below V.heap.size V W
theorem MtC.below {P N B : Nat} {px : BitVec 128} {pn ph : Int} {x bx : BitVec 128} {bn bh : Int} {V W W' : World} (k : MtC P N B px pn ph x bx bn bh V W) (hb : Below W.heap.size W W') : MtC P N B px pn ph x bx bn bh V W' := ⟨k.1.below hb, ⟨keepc hb k.2.1.1, keepc hb k.2.1.2⟩, k.2.2.1.below hb, keepb hb k.2.2.2⟩
theorem MtC.drew {P N B : Nat} {px : BitVec 128} {pn ph : Int} {x bx : BitVec 128} {bn bh : Int} {V W : World} (k : MtC P N B px pn ph x bx bn bh V W) : MtC P N B px pn ph x bx bn bh V W.drew := k.below (below_drewN (Below.refl _ _) 1)
/-- The match as it stands in memory. -/
def bX (o : Option Rte) : BitVec 128 := (o.map (·.1.1)).getD 0#128
def bN (o : Option Rte) : Int := (o.map (·.1.2)).getD 0
theorem mat_drop (x : BitVec 128) (b : Option Rte) (l : List Rte) (k : Nat) (hk : k < l.length) : mat x b (l.drop k) = mat x (if (hasR l[k] x && (b.all fun o => decide (o.1.2 < l[k].1.2))) = true then some l[k] else b) (l.drop (k + 1)) := by
  rw [List.drop_eq_getElem_cons hk]
  rfl
set_option maxRecDepth 20000 in
set_option maxHeartbeats 16000000 in
theorem rmatch_any (F : Int) (x : BitVec 128) (v : Value) (l : List Rte) (w : World) (hv : RwR w v l) (hl : l.length ≤ 1000000000) (hL : ∀ r ∈ l, 0 ≤ r.1.2 ∧ r.1.2 ≤ 128 ∧ cutW r.1.1 r.1.2 = r.1.1) :
    Calls Try.prog 18 #[.agg #[.int .i64 F, v], .agg #[.int .u64 (hI x), .int .u64 (lI x)]] w fun e w' => e = .returned (.tuple #[.agg #[.int .u64 (hI (bX (mat x none l))), .int .u64 (lI (bX (mat x none l))), .int .i64 (bN (mat x none l)), .int .i64 (hopM (mat x none l))], .bool (mat x none l).isSome]) ∧ Below w.heap.size w w' := by
  obtain ⟨ao, c, rfl, hv⟩ := hv
  have HV : Hid (l = [] ∨ ∃ b off, ao = some ⟨b, off, none⟩ ∧ ∀ j u, (rowR l)[j]? = some u → w.cell? ⟨b, off + j, none⟩ = some u) := hv
  have HL := hidR hL
  obtain ⟨mo, hmo⟩ : ∃ mo, mo = mat x none l := ⟨_, rfl⟩
  rw [← hmo]
  have HF := hidR hmo
  have H0 : Hid (MtI w F (.slice ao l.length c) x 0#128 0 0 ((((w.alloc (.cells #[.int .i64 F, .slice ao l.length c] 25)).alloc (.cells #[.int .u64 (hI x), .int .u64 (lI x)] 36)).alloc (.cells #[.int .u64 0, .int .u64 0, .int .i64 0, .int .i64 0] 45)).alloc (.cells #[.int .u64 0, .int .u64 0, .int .i64 0, .int .i64 0] 45))) := by
    have q1 := bl1 w (.cells #[.int .i64 F, .slice ao l.length c] 25)
    have q2 := bl1 (w.alloc (.cells #[.int .i64 F, .slice ao l.length c] 25)) (.cells #[.int .u64 (hI x), .int .u64 (lI x)] 36)
    have q3 := bl1 ((w.alloc (.cells #[.int .i64 F, .slice ao l.length c] 25)).alloc (.cells #[.int .u64 (hI x), .int .u64 (lI x)] 36)) (.cells #[.int .u64 0, .int .u64 0, .int .i64 0, .int .i64 0] 45)
    have q4 := bl1 (((w.alloc (.cells #[.int .i64 F, .slice ao l.length c] 25)).alloc (.cells #[.int .u64 (hI x), .int .u64 (lI x)] 36)).alloc (.cells #[.int .u64 0, .int .u64 0, .int .i64 0, .int .i64 0] 45)) (.cells #[.int .u64 0, .int .u64 0, .int .i64 0, .int .i64 0] 45)
    have z1 := atv_new ((w.alloc (.cells #[.int .i64 F, .slice ao l.length c] 25)).alloc (.cells #[.int .u64 (hI x), .int .u64 (lI x)] 36)) (w.heap.size + 2) 0#128 0 0 45 (by simp)
    have z2 := atv_new (((w.alloc (.cells #[.int .i64 F, .slice ao l.length c] 25)).alloc (.cells #[.int .u64 (hI x), .int .u64 (lI x)] 36)).alloc (.cells #[.int .u64 0, .int .u64 0, .int .i64 0, .int .i64 0] 45)) (w.heap.size + 3) 0#128 0 0 45 (by simp)
    rw [hI_zero, lI_zero] at z1 z2
    have t1 := atu_new w w.heap.size F (.slice ao l.length c) 25 rfl
    have p1 := at_new (w.alloc (.cells #[.int .i64 F, .slice ao l.length c] 25)) (w.heap.size + 1) x 36 (by simp)
    refine hidR ⟨?_, ?_, z1.heap (hAl _ z1.lt), z2, keepb q4 (keepb q3 (keepb q2 q1))⟩
    · have t2 := t1.heap (hAl (.cells #[.int .u64 (hI x), .int .u64 (lI x)] 36) t1.lt)
      have t3 := t2.heap (hAl (.cells #[.int .u64 0, .int .u64 0, .int .i64 0, .int .i64 0] 45) t2.lt)
      exact t3.heap (hAl _ t3.lt)
    · exact (p1.below q3).below q4
  clear hv hmo hL
  go_enter Try.func18, Try.ntmps18
  go_wp2_with fail
  go_loopw [7, 8] (fun tv i wr => ∃ (k : Nat) (bo : Option Rte), k ≤ l.length ∧ i = .int .i64 k ∧ tv = .bool bo.isSome ∧ Hid (mat x bo (l.drop k) = mo) ∧ Hid (MtI w F (.slice ao l.length c) x (bX bo) (bN bo) (hopM bo) wr)) (fun _ i _ => l.length - (intOf i).toNat)
  case atStart => exact ⟨0, none, by omega, rfl, rfl, hidR HF.out.symm, H0⟩
  case round =>
    clear H0 HF
    obtain ⟨k, bo, hk, rfl, rfl, HG, HI⟩ := hrel
    obtain ⟨t0, t1, -, -⟩ := HI.out.t
    by_cases hlt : (k : Int) < (l.length : Int)
    · have hks : k < l.length := by omega
      rcases HV.out with e | ⟨b, off, rfl, hc⟩
      · rw [e] at hks; simp at hks
      · obtain ⟨x0, x1, x2, x3⟩ := rwr_cells hc k hks
        have x0 := keepc HI.out.bel x0
        have x1 := keepc HI.out.bel x1
        have x2 := keepc HI.out.bel x2
        have x3 := keepc HI.out.bel x3
        have HD := hidR (mat_drop x bo l k hks)
        have KC := fun w => common_any l[k].1.1 x w
        have HH : Hid (hasR l[k] x = decide (l[k].1.2 ≤ ((leadN (l[k].1.1 ^^^ x) : Nat) : Int))) := hidR (by
          obtain ⟨g0, g1, g2⟩ := HL.out l[k] (List.getElem_mem hks)
          have := has_eq l[k].1.1 l[k].1.2 x g0 g1 g2
          unfold rhasB at this
          unfold hasR
          rw [this])
        have mk : IntKind.i64.wrap ((k : Int) + 1) = (k : Int) + 1 := by rw [IntKind.wrap_i64]; omega
        have HLk : Hid (l[k] = ((l[k].1.1, l[k].1.2), l[k].2)) := hidR rfl
        revert HD HH KC HLk
        generalize ((leadN (l[k].1.1 ^^^ x) : Nat) : Int) = cm
        generalize hR0 : l[k] = R0 at *
        clear hR0
        obtain ⟨⟨px, pn⟩, ph⟩ := R0
        simp only at x0 x1 x2 x3
        intro HD KC HH HLk
        dsimp only at KC HH HD
        clear hc HLk
        have HI1 := hidR (HI.out.below (bl1 wr (.cells #[.int .u64 (hI px), .int .u64 (lI px), .int .i64 pn, .int .i64 ph] 45)))
        have hrn := atr_new wr wr.heap.size px pn ph 45 rfl
        have HRN := hidR hrn
        obtain ⟨p0, p1, p2, p3⟩ := hrn
        clear HI
        have hmt : ∀ W6, Below (wr.alloc (.cells #[.int .u64 (hI px), .int .u64 (lI px), .int .i64 pn, .int .i64 ph] 45)).heap.size (wr.alloc (.cells #[.int .u64 (hI px), .int .u64 (lI px), .int .i64 pn, .int .i64 ph] 45)) W6 → MtI w F (.slice (some ⟨b, off, none⟩) l.length c) x (bX bo) (bN bo) (hopM bo) W6 ∧ AtR W6 wr.heap.size px pn ph := fun W6 hb => ⟨HI1.out.below hb, HRN.out.below hb⟩
        have HM := hidR hmt
        clear hmt
        have HC : Hid (MtC (w.heap.size + 1) wr.heap.size (w.heap.size + 3) px pn ph x (bX bo) (bN bo) (hopM bo) (wr.alloc (.cells #[.int .u64 (hI px), .int .u64 (lI px), .int .i64 pn, .int .i64 ph] 45)) (wr.alloc (.cells #[.int .u64 (hI px), .int .u64 (lI px), .int .i64 pn, .int .i64 ph] 45))) := hidR ⟨HRN.out, ⟨HI1.out.p.1, HI1.out.p.2.1⟩, HI1.out.b.1, Below.refl _ _⟩
        clear HI1 HRN
        by_cases hcm : pn ≤ cm
        · have dcm : decide (pn ≤ cm) = true := by simpa using hcm
          rw [dcm] at HH
          cases hbo : bo with
          | none =>
            subst hbo
            have HD2 : Hid (mat x (some ((px, pn), ph)) (l.drop (k + 1)) = mo) := hidR (by rw [← HG.out, HD.out, HH.out]; simp)
            clear HD HG HH hcm
            revert HC HM
            generalize bX none = bx
            generalize bN none = bn
            generalize hopM none = bh
            intro HM HC
            simp only [Option.isSome_none]
            go_wp2_with fail
            refine qw_region (C := MtC (w.heap.size + 1) wr.heap.size (w.heap.size + 3) px pn ph x bx bn bh (wr.alloc (.cells #[.int .u64 (hI px), .int .u64 (lI px), .int .i64 pn, .int .i64 ph] 45))) (by kernel_rfl) (by kernel_rfl) HC.out.drew ?_
            clear HC
            refine qw_run (v := .pointer (some ⟨wr.heap.size, 0, none⟩)) (by rfl) ?_ ?_
            · (intro w1 hC; obtain ⟨⟨x0, x1, x2, x3⟩, ⟨y0, y1⟩, ⟨b0, b1, b2, b3⟩, -⟩ := hC; go_simp; first | done | (simp; done) | (simp [*]; done) | omega | (simp; omega) | (rw [IntKind.wrap_i64]; omega) | (intro hx; omega) | rfl)
            simp only [Act.put, List.setIfInBounds_toArray, List.set_cons_zero, List.set_cons_succ]
            refine qw_run (v := .pointer (some ⟨wr.heap.size, 0, none⟩)) (by rfl) ?_ ?_
            · (intro w1 hC; obtain ⟨⟨x0, x1, x2, x3⟩, ⟨y0, y1⟩, ⟨b0, b1, b2, b3⟩, -⟩ := hC; go_simp; first | done | (simp; done) | (simp [*]; done) | omega | (simp; omega) | (rw [IntKind.wrap_i64]; omega) | (intro hx; omega) | rfl)
            simp only [Act.put, List.setIfInBounds_toArray, List.set_cons_zero, List.set_cons_succ]
            refine qw_run (v := .agg #[.int .u64 (hI px), .int .u64 (lI px)]) (by rfl) ?_ ?_
            · (intro w1 hC; obtain ⟨⟨x0, x1, x2, x3⟩, ⟨y0, y1⟩, ⟨b0, b1, b2, b3⟩, -⟩ := hC; go_simp; first | done | (simp; done) | (simp [*]; done) | omega | (simp; omega) | (rw [IntKind.wrap_i64]; omega) | (intro hx; omega) | rfl)
            simp only [Act.put, List.setIfInBounds_toArray, List.set_cons_zero, List.set_cons_succ]
            refine qw_run (v := .agg #[.int .u64 (hI x), .int .u64 (lI x)]) (by rfl) ?_ ?_
            · (intro w1 hC; obtain ⟨⟨x0, x1, x2, x3⟩, ⟨y0, y1⟩, ⟨b0, b1, b2, b3⟩, -⟩ := hC; go_simp; first | done | (simp; done) | (simp [*]; done) | omega | (simp; omega) | (rw [IntKind.wrap_i64]; omega) | (intro hx; omega) | rfl)
            simp only [Act.put, List.setIfInBounds_toArray, List.set_cons_zero, List.set_cons_succ]
            refine qw_call (v := .int .i64 cm) (f := 36) (args := #[.agg #[.int .u64 (hI px), .int .u64 (lI px)], .agg #[.int .u64 (hI x), .int .u64 (lI x)]]) (by rfl) ?_ ?_ ?_
            · (intro w1 hC; clear hC; go_simp)
            · exact fun w1 hC => (KC w1).mono fun e w' ⟨he, hb⟩ => ⟨he, hC.below hb⟩
            simp only [Act.put, List.setIfInBounds_toArray, List.set_cons_zero, List.set_cons_succ]
            refine qw_run (v := .pointer (some ⟨wr.heap.size, 0, none⟩)) (by rfl) ?_ ?_
            · (intro w1 hC; obtain ⟨⟨x0, x1, x2, x3⟩, ⟨y0, y1⟩, ⟨b0, b1, b2, b3⟩, -⟩ := hC; go_simp; first | done | (simp; done) | (simp [*]; done) | omega | (simp; omega) | (rw [IntKind.wrap_i64]; omega) | (intro hx; omega) | rfl)
            simp only [Act.put, List.setIfInBounds_toArray, List.set_cons_zero, List.set_cons_succ]
            refine qw_run (v := .pointer (some ⟨wr.heap.size, 2, none⟩)) (by rfl) ?_ ?_
            · (intro w1 hC; obtain ⟨⟨x0, x1, x2, x3⟩, ⟨y0, y1⟩, ⟨b0, b1, b2, b3⟩, -⟩ := hC; go_simp; first | done | (simp; done) | (simp [*]; done) | omega | (simp; omega) | (rw [IntKind.wrap_i64]; omega) | (intro hx; omega) | rfl)
            simp only [Act.put, List.setIfInBounds_toArray, List.set_cons_zero, List.set_cons_succ]
            refine qw_run (v := .int .i64 pn) (by rfl) ?_ ?_
            · (intro w1 hC; obtain ⟨⟨x0, x1, x2, x3⟩, ⟨y0, y1⟩, ⟨b0, b1, b2, b3⟩, -⟩ := hC; go_simp; first | done | (simp; done) | (simp [*]; done) | omega | (simp; omega) | (rw [IntKind.wrap_i64]; omega) | (intro hx; omega) | rfl)
            simp only [Act.put, List.setIfInBounds_toArray, List.set_cons_zero, List.set_cons_succ]
            refine qw_run (v := .bool true) (by rfl) ?_ ?_
            · (intro w1 hC; obtain ⟨⟨x0, x1, x2, x3⟩, ⟨y0, y1⟩, ⟨b0, b1, b2, b3⟩, -⟩ := hC; go_simp; first | done | (simp; done) | (simp [*]; done) | omega | (simp; omega) | (rw [IntKind.wrap_i64]; omega) | (intro hx; omega) | rfl)
            simp only [Act.put, List.setIfInBounds_toArray, List.set_cons_zero, List.set_cons_succ]
            refine qw_run (v := .bool true) (by rfl) ?_ ?_
            · (intro w1 hC; obtain ⟨⟨x0, x1, x2, x3⟩, ⟨y0, y1⟩, ⟨b0, b1, b2, b3⟩, -⟩ := hC; go_simp; first | done | (simp; done) | (simp [*]; done) | omega | (simp; omega) | (rw [IntKind.wrap_i64]; omega) | (intro hx; omega) | rfl)
            simp only [Act.put, List.setIfInBounds_toArray, List.set_cons_zero, List.set_cons_succ]
            refine qw_run (v := .bool false) (by rfl) ?_ ?_
            · (intro w1 hC; obtain ⟨⟨x0, x1, x2, x3⟩, ⟨y0, y1⟩, ⟨b0, b1, b2, b3⟩, -⟩ := hC; go_simp; first | done | (simp; done) | (simp [*]; done) | omega | (simp; omega) | (rw [IntKind.wrap_i64]; omega) | (intro hx; omega) | rfl)
            simp only [Act.put, List.setIfInBounds_toArray, List.set_cons_zero, List.set_cons_succ]
            refine qw_run (v := .bool true) (by rfl) ?_ ?_
            · (intro w1 hC; obtain ⟨⟨x0, x1, x2, x3⟩, ⟨y0, y1⟩, ⟨b0, b1, b2, b3⟩, -⟩ := hC; go_simp; first | done | (simp; done) | (simp [*]; done) | omega | (simp; omega) | (rw [IntKind.wrap_i64]; omega) | (intro hx; omega) | rfl)
            simp only [Act.put, List.setIfInBounds_toArray, List.set_cons_zero, List.set_cons_succ]
            refine qw_run (v := .bool true) (by rfl) ?_ ?_
            · (intro w1 hC; obtain ⟨⟨x0, x1, x2, x3⟩, ⟨y0, y1⟩, ⟨b0, b1, b2, b3⟩, -⟩ := hC; go_simp; first | done | (simp; done) | (simp [*]; done) | omega | (simp; omega) | (rw [IntKind.wrap_i64]; omega) | (intro hx; omega) | rfl)
            simp only [Act.put, List.setIfInBounds_toArray, List.set_cons_zero, List.set_cons_succ]
            refine qw_skip (by rfl) ?_
            simp only [Act.put, List.setIfInBounds_toArray, List.set_cons_zero, List.set_cons_succ]
            refine qw_skip (by rfl) ?_
            simp only [Act.put, List.setIfInBounds_toArray, List.set_cons_zero, List.set_cons_succ]
            refine qw_skip (by rfl) ?_
            simp only [Act.put, List.setIfInBounds_toArray, List.set_cons_zero, List.set_cons_succ]
            refine qw_skip (by rfl) ?_
            simp only [Act.put, List.setIfInBounds_toArray, List.set_cons_zero, List.set_cons_succ]
            refine qw_skip (by rfl) ?_
            simp only [Act.put, List.setIfInBounds_toArray, List.set_cons_zero, List.set_cons_succ]
            refine qw_skip (by rfl) ?_
            simp only [Act.put, List.setIfInBounds_toArray, List.set_cons_zero, List.set_cons_succ]
            refine qw_skip (by rfl) ?_
            simp only [Act.put, List.setIfInBounds_toArray, List.set_cons_zero, List.set_cons_succ]
            refine qw_run (v := .bool true) (by rfl) ?_ ?_
            · (intro w1 hC; obtain ⟨⟨x0, x1, x2, x3⟩, ⟨y0, y1⟩, ⟨b0, b1, b2, b3⟩, -⟩ := hC; go_simp; first | done | (simp; done) | (simp [*]; done) | omega | (simp; omega) | (rw [IntKind.wrap_i64]; omega) | (intro hx; omega) | rfl)
            simp only [Act.put, List.setIfInBounds_toArray, List.set_cons_zero, List.set_cons_succ]
            refine qw_run (v := .bool true) (by rfl) ?_ ?_
            · (intro w1 hC; obtain ⟨⟨x0, x1, x2, x3⟩, ⟨y0, y1⟩, ⟨b0, b1, b2, b3⟩, -⟩ := hC; go_simp; first | done | (simp; done) | (simp [*]; done) | omega | (simp; omega) | (rw [IntKind.wrap_i64]; omega) | (intro hx; omega) | rfl)
            simp only [Act.put, List.setIfInBounds_toArray, List.set_cons_zero, List.set_cons_succ]
            refine qw_nil ?_
            intro W6 hC6
            have HC6 := hidR hC6.2.2.2
            clear hC6 KC
            obtain ⟨HI6, r0, r1, r2, r3⟩ := HM.out W6 HC6.out
            obtain ⟨⟨b0, b1, b2, b3⟩, f0, f1, f2, f3⟩ := HI6.b
            have HJ := hidR (HI6.take px pn ph)
            clear HM HC6 HI6
            go_wp2
            go_roundw
            case rel => exact ⟨k + 1, some ((px, pn), ph), by omega, by go_num, rfl, HD2, HJ⟩
            case measure => simp [intOf]; omega
          | some o =>
            obtain ⟨⟨bx, bn⟩, bh⟩ := o
            subst hbo
            have e1 : bX (some ((bx, bn), bh)) = bx := rfl
            have e2 : bN (some ((bx, bn), bh)) = bn := rfl
            have e3 : hopM (some ((bx, bn), bh)) = bh := rfl
            rw [e1, e2, e3] at HC HM
            clear e1 e2 e3
            simp only [Option.isSome_some]
            by_cases hbn : bn < pn
            · have dbn : decide (bn < pn) = true := by simpa using hbn
              have HD2 : Hid (mat x (some ((px, pn), ph)) (l.drop (k + 1)) = mo) := hidR (by rw [← HG.out, HD.out, HH.out]; simp [hbn])
              clear HD HG HH
              go_wp2_with fail
              refine qw_region (C := MtC (w.heap.size + 1) wr.heap.size (w.heap.size + 3) px pn ph x bx bn bh (wr.alloc (.cells #[.int .u64 (hI px), .int .u64 (lI px), .int .i64 pn, .int .i64 ph] 45))) (by kernel_rfl) (by kernel_rfl) HC.out.drew ?_
              clear HC
              refine qw_run (v := .pointer (some ⟨wr.heap.size, 0, none⟩)) (by rfl) ?_ ?_
              · (intro w1 hC; obtain ⟨⟨x0, x1, x2, x3⟩, ⟨y0, y1⟩, ⟨b0, b1, b2, b3⟩, -⟩ := hC; go_simp; first | done | (simp; done) | (simp [*]; done) | omega | (simp; omega) | (rw [IntKind.wrap_i64]; omega) | (intro hx; omega) | rfl)
              simp only [Act.put, List.setIfInBounds_toArray, List.set_cons_zero, List.set_cons_succ]
              refine qw_run (v := .pointer (some ⟨wr.heap.size, 0, none⟩)) (by rfl) ?_ ?_
              · (intro w1 hC; obtain ⟨⟨x0, x1, x2, x3⟩, ⟨y0, y1⟩, ⟨b0, b1, b2, b3⟩, -⟩ := hC; go_simp; first | done | (simp; done) | (simp [*]; done) | omega | (simp; omega) | (rw [IntKind.wrap_i64]; omega) | (intro hx; omega) | rfl)
              simp only [Act.put, List.setIfInBounds_toArray, List.set_cons_zero, List.set_cons_succ]
              refine qw_run (v := .agg #[.int .u64 (hI px), .int .u64 (lI px)]) (by rfl) ?_ ?_
              · (intro w1 hC; obtain ⟨⟨x0, x1, x2, x3⟩, ⟨y0, y1⟩, ⟨b0, b1, b2, b3⟩, -⟩ := hC; go_simp; first | done | (simp; done) | (simp [*]; done) | omega | (simp; omega) | (rw [IntKind.wrap_i64]; omega) | (intro hx; omega) | rfl)
              simp only [Act.put, List.setIfInBounds_toArray, List.set_cons_zero, List.set_cons_succ]
              refine qw_run (v := .agg #[.int .u64 (hI x), .int .u64 (lI x)]) (by rfl) ?_ ?_
              · (intro w1 hC; obtain ⟨⟨x0, x1, x2, x3⟩, ⟨y0, y1⟩, ⟨b0, b1, b2, b3⟩, -⟩ := hC; go_simp; first | done | (simp; done) | (simp [*]; done) | omega | (simp; omega) | (rw [IntKind.wrap_i64]; omega) | (intro hx; omega) | rfl)
              simp only [Act.put, List.setIfInBounds_toArray, List.set_cons_zero, List.set_cons_succ]
              refine qw_call (v := .int .i64 cm) (f := 36) (args := #[.agg #[.int .u64 (hI px), .int .u64 (lI px)], .agg #[.int .u64 (hI x), .int .u64 (lI x)]]) (by rfl) ?_ ?_ ?_
              · (intro w1 hC; clear hC; go_simp)
              · exact fun w1 hC => (KC w1).mono fun e w' ⟨he, hb⟩ => ⟨he, hC.below hb⟩
              simp only [Act.put, List.setIfInBounds_toArray, List.set_cons_zero, List.set_cons_succ]
              refine qw_run (v := .pointer (some ⟨wr.heap.size, 0, none⟩)) (by rfl) ?_ ?_
              · (intro w1 hC; obtain ⟨⟨x0, x1, x2, x3⟩, ⟨y0, y1⟩, ⟨b0, b1, b2, b3⟩, -⟩ := hC; go_simp; first | done | (simp; done) | (simp [*]; done) | omega | (simp; omega) | (rw [IntKind.wrap_i64]; omega) | (intro hx; omega) | rfl)
              simp only [Act.put, List.setIfInBounds_toArray, List.set_cons_zero, List.set_cons_succ]
              refine qw_run (v := .pointer (some ⟨wr.heap.size, 2, none⟩)) (by rfl) ?_ ?_
              · (intro w1 hC; obtain ⟨⟨x0, x1, x2, x3⟩, ⟨y0, y1⟩, ⟨b0, b1, b2, b3⟩, -⟩ := hC; go_simp; first | done | (simp; done) | (simp [*]; done) | omega | (simp; omega) | (rw [IntKind.wrap_i64]; omega) | (intro hx; omega) | rfl)
              simp only [Act.put, List.setIfInBounds_toArray, List.set_cons_zero, List.set_cons_succ]
              refine qw_run (v := .int .i64 pn) (by rfl) ?_ ?_
              · (intro w1 hC; obtain ⟨⟨x0, x1, x2, x3⟩, ⟨y0, y1⟩, ⟨b0, b1, b2, b3⟩, -⟩ := hC; go_simp; first | done | (simp; done) | (simp [*]; done) | omega | (simp; omega) | (rw [IntKind.wrap_i64]; omega) | (intro hx; omega) | rfl)
              simp only [Act.put, List.setIfInBounds_toArray, List.set_cons_zero, List.set_cons_succ]
              refine qw_run (v := .bool true) (by rfl) ?_ ?_
              · (intro w1 hC; obtain ⟨⟨x0, x1, x2, x3⟩, ⟨y0, y1⟩, ⟨b0, b1, b2, b3⟩, -⟩ := hC; go_simp; first | done | (simp; done) | (simp [*]; done) | omega | (simp; omega) | (rw [IntKind.wrap_i64]; omega) | (intro hx; omega) | rfl)
              simp only [Act.put, List.setIfInBounds_toArray, List.set_cons_zero, List.set_cons_succ]
              refine qw_run (v := .bool true) (by rfl) ?_ ?_
              · (intro w1 hC; obtain ⟨⟨x0, x1, x2, x3⟩, ⟨y0, y1⟩, ⟨b0, b1, b2, b3⟩, -⟩ := hC; go_simp; first | done | (simp; done) | (simp [*]; done) | omega | (simp; omega) | (rw [IntKind.wrap_i64]; omega) | (intro hx; omega) | rfl)
              simp only [Act.put, List.setIfInBounds_toArray, List.set_cons_zero, List.set_cons_succ]
              refine qw_run (v := .bool true) (by rfl) ?_ ?_
              · (intro w1 hC; obtain ⟨⟨x0, x1, x2, x3⟩, ⟨y0, y1⟩, ⟨b0, b1, b2, b3⟩, -⟩ := hC; go_simp; first | done | (simp; done) | (simp [*]; done) | omega | (simp; omega) | (rw [IntKind.wrap_i64]; omega) | (intro hx; omega) | rfl)
              simp only [Act.put, List.setIfInBounds_toArray, List.set_cons_zero, List.set_cons_succ]
              refine qw_run (v := .bool false) (by rfl) ?_ ?_
              · (intro w1 hC; obtain ⟨⟨x0, x1, x2, x3⟩, ⟨y0, y1⟩, ⟨b0, b1, b2, b3⟩, -⟩ := hC; go_simp; first | done | (simp; done) | (simp [*]; done) | omega | (simp; omega) | (rw [IntKind.wrap_i64]; omega) | (intro hx; omega) | rfl)
              simp only [Act.put, List.setIfInBounds_toArray, List.set_cons_zero, List.set_cons_succ]
              refine qw_run (v := .bool false) (by rfl) ?_ ?_
              · (intro w1 hC; obtain ⟨⟨x0, x1, x2, x3⟩, ⟨y0, y1⟩, ⟨b0, b1, b2, b3⟩, -⟩ := hC; go_simp; first | done | (simp; done) | (simp [*]; done) | omega | (simp; omega) | (rw [IntKind.wrap_i64]; omega) | (intro hx; omega) | rfl)
              simp only [Act.put, List.setIfInBounds_toArray, List.set_cons_zero, List.set_cons_succ]
              refine qw_run (v := .pointer (some ⟨wr.heap.size, 0, none⟩)) (by rfl) ?_ ?_
              · (intro w1 hC; obtain ⟨⟨x0, x1, x2, x3⟩, ⟨y0, y1⟩, ⟨b0, b1, b2, b3⟩, -⟩ := hC; go_simp; first | done | (simp; done) | (simp [*]; done) | omega | (simp; omega) | (rw [IntKind.wrap_i64]; omega) | (intro hx; omega) | rfl)
              simp only [Act.put, List.setIfInBounds_toArray, List.set_cons_zero, List.set_cons_succ]
              refine qw_run (v := .pointer (some ⟨wr.heap.size, 2, none⟩)) (by rfl) ?_ ?_
              · (intro w1 hC; obtain ⟨⟨x0, x1, x2, x3⟩, ⟨y0, y1⟩, ⟨b0, b1, b2, b3⟩, -⟩ := hC; go_simp; first | done | (simp; done) | (simp [*]; done) | omega | (simp; omega) | (rw [IntKind.wrap_i64]; omega) | (intro hx; omega) | rfl)
              simp only [Act.put, List.setIfInBounds_toArray, List.set_cons_zero, List.set_cons_succ]
              refine qw_run (v := .int .i64 pn) (by rfl) ?_ ?_
              · (intro w1 hC; obtain ⟨⟨x0, x1, x2, x3⟩, ⟨y0, y1⟩, ⟨b0, b1, b2, b3⟩, -⟩ := hC; go_simp; first | done | (simp; done) | (simp [*]; done) | omega | (simp; omega) | (rw [IntKind.wrap_i64]; omega) | (intro hx; omega) | rfl)
              simp only [Act.put, List.setIfInBounds_toArray, List.set_cons_zero, List.set_cons_succ]
              refine qw_run (v := .pointer (some ⟨(w.heap.size + 3), 0, none⟩)) (by rfl) ?_ ?_
              · (intro w1 hC; obtain ⟨⟨x0, x1, x2, x3⟩, ⟨y0, y1⟩, ⟨b0, b1, b2, b3⟩, -⟩ := hC; go_simp; first | done | (simp; done) | (simp [*]; done) | omega | (simp; omega) | (rw [IntKind.wrap_i64]; omega) | (intro hx; omega) | rfl)
              simp only [Act.put, List.setIfInBounds_toArray, List.set_cons_zero, List.set_cons_succ]
              refine qw_run (v := .pointer (some ⟨(w.heap.size + 3), 2, none⟩)) (by rfl) ?_ ?_
              · (intro w1 hC; obtain ⟨⟨x0, x1, x2, x3⟩, ⟨y0, y1⟩, ⟨b0, b1, b2, b3⟩, -⟩ := hC; go_simp; first | done | (simp; done) | (simp [*]; done) | omega | (simp; omega) | (rw [IntKind.wrap_i64]; omega) | (intro hx; omega) | rfl)
              simp only [Act.put, List.setIfInBounds_toArray, List.set_cons_zero, List.set_cons_succ]
              refine qw_run (v := .int .i64 bn) (by rfl) ?_ ?_
              · (intro w1 hC; obtain ⟨⟨x0, x1, x2, x3⟩, ⟨y0, y1⟩, ⟨b0, b1, b2, b3⟩, -⟩ := hC; go_simp; first | done | (simp; done) | (simp [*]; done) | omega | (simp; omega) | (rw [IntKind.wrap_i64]; omega) | (intro hx; omega) | rfl)
              simp only [Act.put, List.setIfInBounds_toArray, List.set_cons_zero, List.set_cons_succ]
              refine qw_run (v := .bool true) (by rfl) ?_ ?_
              · (intro w1 hC; obtain ⟨⟨x0, x1, x2, x3⟩, ⟨y0, y1⟩, ⟨b0, b1, b2, b3⟩, -⟩ := hC; go_simp; first | done | (simp; done) | (simp [*]; done) | omega | (simp; omega) | (rw [IntKind.wrap_i64]; omega) | (intro hx; omega) | rfl)
              simp only [Act.put, List.setIfInBounds_toArray, List.set_cons_zero, List.set_cons_succ]
              refine qw_run (v := .bool true) (by rfl) ?_ ?_
              · (intro w1 hC; obtain ⟨⟨x0, x1, x2, x3⟩, ⟨y0, y1⟩, ⟨b0, b1, b2, b3⟩, -⟩ := hC; go_simp; first | done | (simp; done) | (simp [*]; done) | omega | (simp; omega) | (rw [IntKind.wrap_i64]; omega) | (intro hx; omega) | rfl)
              simp only [Act.put, List.setIfInBounds_toArray, List.set_cons_zero, List.set_cons_succ]
              refine qw_run (v := .bool true) (by rfl) ?_ ?_
              · (intro w1 hC; obtain ⟨⟨x0, x1, x2, x3⟩, ⟨y0, y1⟩, ⟨b0, b1, b2, b3⟩, -⟩ := hC; go_simp; first | done | (simp; done) | (simp [*]; done) | omega | (simp; omega) | (rw [IntKind.wrap_i64]; omega) | (intro hx; omega) | rfl)
              simp only [Act.put, List.setIfInBounds_toArray, List.set_cons_zero, List.set_cons_succ]
              refine qw_nil ?_
              intro W6 hC6
              have HC6 := hidR hC6.2.2.2
              clear hC6 KC
              obtain ⟨HI6, r0, r1, r2, r3⟩ := HM.out W6 HC6.out
              obtain ⟨⟨b0, b1, b2, b3⟩, f0, f1, f2, f3⟩ := HI6.b
              have HJ := hidR (HI6.take px pn ph)
              clear HM HC6 HI6
              go_wp2
              go_roundw
              case rel => exact ⟨k + 1, some ((px, pn), ph), by omega, by go_num, rfl, HD2, HJ⟩
              case measure => simp [intOf]; omega
            · have dbn : decide (bn < pn) = false := by simpa using hbn
              have HD2 : Hid (mat x (some ((bx, bn), bh)) (l.drop (k + 1)) = mo) := hidR (by rw [← HG.out, HD.out, HH.out]; simp [hbn])
              clear HD HG HH
              go_wp2_with fail
              refine qw_region (C := MtC (w.heap.size + 1) wr.heap.size (w.heap.size + 3) px pn ph x bx bn bh (wr.alloc (.cells #[.int .u64 (hI px), .int .u64 (lI px), .int .i64 pn, .int .i64 ph] 45))) (by kernel_rfl) (by kernel_rfl) HC.out.drew ?_
              clear HC
              refine qw_run (v := .pointer (some ⟨wr.heap.size, 0, none⟩)) (by rfl) ?_ ?_
              · (intro w1 hC; obtain ⟨⟨x0, x1, x2, x3⟩, ⟨y0, y1⟩, ⟨b0, b1, b2, b3⟩, -⟩ := hC; go_simp; first | done | (simp; done) | (simp [*]; done) | omega | (simp; omega) | (rw [IntKind.wrap_i64]; omega) | (intro hx; omega) | rfl)
              simp only [Act.put, List.setIfInBounds_toArray, List.set_cons_zero, List.set_cons_succ]
              refine qw_run (v := .pointer (some ⟨wr.heap.size, 0, none⟩)) (by rfl) ?_ ?_
              · (intro w1 hC; obtain ⟨⟨x0, x1, x2, x3⟩, ⟨y0, y1⟩, ⟨b0, b1, b2, b3⟩, -⟩ := hC; go_simp; first | done | (simp; done) | (simp [*]; done) | omega | (simp; omega) | (rw [IntKind.wrap_i64]; omega) | (intro hx; omega) | rfl)
              simp only [Act.put, List.setIfInBounds_toArray, List.set_cons_zero, List.set_cons_succ]
              refine qw_run (v := .agg #[.int .u64 (hI px), .int .u64 (lI px)]) (by rfl) ?_ ?_
              · (intro w1 hC; obtain ⟨⟨x0, x1, x2, x3⟩, ⟨y0, y1⟩, ⟨b0, b1, b2, b3⟩, -⟩ := hC; go_simp; first | done | (simp; done) | (simp [*]; done) | omega | (simp; omega) | (rw [IntKind.wrap_i64]; omega) | (intro hx; omega) | rfl)
              simp only [Act.put, List.setIfInBounds_toArray, List.set_cons_zero, List.set_cons_succ]
              refine qw_run (v := .agg #[.int .u64 (hI x), .int .u64 (lI x)]) (by rfl) ?_ ?_
              · (intro w1 hC; obtain ⟨⟨x0, x1, x2, x3⟩, ⟨y0, y1⟩, ⟨b0, b1, b2, b3⟩, -⟩ := hC; go_simp; first | done | (simp; done) | (simp [*]; done) | omega | (simp; omega) | (rw [IntKind.wrap_i64]; omega) | (intro hx; omega) | rfl)
              simp only [Act.put, List.setIfInBounds_toArray, List.set_cons_zero, List.set_cons_succ]
              refine qw_call (v := .int .i64 cm) (f := 36) (args := #[.agg #[.int .u64 (hI px), .int .u64 (lI px)], .agg #[.int .u64 (hI x), .int .u64 (lI x)]]) (by rfl) ?_ ?_ ?_
              · (intro w1 hC; clear hC; go_simp)
              · exact fun w1 hC => (KC w1).mono fun e w' ⟨he, hb⟩ => ⟨he, hC.below hb⟩
              simp only [Act.put, List.setIfInBounds_toArray, List.set_cons_zero, List.set_cons_succ]
              refine qw_run (v := .pointer (some ⟨wr.heap.size, 0, none⟩)) (by rfl) ?_ ?_
              · (intro w1 hC; obtain ⟨⟨x0, x1, x2, x3⟩, ⟨y0, y1⟩, ⟨b0, b1, b2, b3⟩, -⟩ := hC; go_simp; first | done | (simp; done) | (simp [*]; done) | omega | (simp; omega) | (rw [IntKind.wrap_i64]; omega) | (intro hx; omega) | rfl)
              simp only [Act.put, List.setIfInBounds_toArray, List.set_cons_zero, List.set_cons_succ]
              refine qw_run (v := .pointer (some ⟨wr.heap.size, 2, none⟩)) (by rfl) ?_ ?_
              · (intro w1 hC; obtain ⟨⟨x0, x1, x2, x3⟩, ⟨y0, y1⟩, ⟨b0, b1, b2, b3⟩, -⟩ := hC; go_simp; first | done | (simp; done) | (simp [*]; done) | omega | (simp; omega) | (rw [IntKind.wrap_i64]; omega) | (intro hx; omega) | rfl)
              simp only [Act.put, List.setIfInBounds_toArray, List.set_cons_zero, List.set_cons_succ]
              refine qw_run (v := .int .i64 pn) (by rfl) ?_ ?_
              · (intro w1 hC; obtain ⟨⟨x0, x1, x2, x3⟩, ⟨y0, y1⟩, ⟨b0, b1, b2, b3⟩, -⟩ := hC; go_simp; first | done | (simp; done) | (simp [*]; done) | omega | (simp; omega) | (rw [IntKind.wrap_i64]; omega) | (intro hx; omega) | rfl)
              simp only [Act.put, List.setIfInBounds_toArray, List.set_cons_zero, List.set_cons_succ]
              refine qw_run (v := .bool true) (by rfl) ?_ ?_
              · (intro w1 hC; obtain ⟨⟨x0, x1, x2, x3⟩, ⟨y0, y1⟩, ⟨b0, b1, b2, b3⟩, -⟩ := hC; go_simp; first | done | (simp; done) | (simp [*]; done) | omega | (simp; omega) | (rw [IntKind.wrap_i64]; omega) | (intro hx; omega) | rfl)
              simp only [Act.put, List.setIfInBounds_toArray, List.set_cons_zero, List.set_cons_succ]
              refine qw_run (v := .bool true) (by rfl) ?_ ?_
              · (intro w1 hC; obtain ⟨⟨x0, x1, x2, x3⟩, ⟨y0, y1⟩, ⟨b0, b1, b2, b3⟩, -⟩ := hC; go_simp; first | done | (simp; done) | (simp [*]; done) | omega | (simp; omega) | (rw [IntKind.wrap_i64]; omega) | (intro hx; omega) | rfl)
              simp only [Act.put, List.setIfInBounds_toArray, List.set_cons_zero, List.set_cons_succ]
              refine qw_run (v := .bool true) (by rfl) ?_ ?_
              · (intro w1 hC; obtain ⟨⟨x0, x1, x2, x3⟩, ⟨y0, y1⟩, ⟨b0, b1, b2, b3⟩, -⟩ := hC; go_simp; first | done | (simp; done) | (simp [*]; done) | omega | (simp; omega) | (rw [IntKind.wrap_i64]; omega) | (intro hx; omega) | rfl)
              simp only [Act.put, List.setIfInBounds_toArray, List.set_cons_zero, List.set_cons_succ]
              refine qw_run (v := .bool false) (by rfl) ?_ ?_
              · (intro w1 hC; obtain ⟨⟨x0, x1, x2, x3⟩, ⟨y0, y1⟩, ⟨b0, b1, b2, b3⟩, -⟩ := hC; go_simp; first | done | (simp; done) | (simp [*]; done) | omega | (simp; omega) | (rw [IntKind.wrap_i64]; omega) | (intro hx; omega) | rfl)
              simp only [Act.put, List.setIfInBounds_toArray, List.set_cons_zero, List.set_cons_succ]
              refine qw_run (v := .bool false) (by rfl) ?_ ?_
              · (intro w1 hC; obtain ⟨⟨x0, x1, x2, x3⟩, ⟨y0, y1⟩, ⟨b0, b1, b2, b3⟩, -⟩ := hC; go_simp; first | done | (simp; done) | (simp [*]; done) | omega | (simp; omega) | (rw [IntKind.wrap_i64]; omega) | (intro hx; omega) | rfl)
              simp only [Act.put, List.setIfInBounds_toArray, List.set_cons_zero, List.set_cons_succ]
              refine qw_run (v := .pointer (some ⟨wr.heap.size, 0, none⟩)) (by rfl) ?_ ?_
              · (intro w1 hC; obtain ⟨⟨x0, x1, x2, x3⟩, ⟨y0, y1⟩, ⟨b0, b1, b2, b3⟩, -⟩ := hC; go_simp; first | done | (simp; done) | (simp [*]; done) | omega | (simp; omega) | (rw [IntKind.wrap_i64]; omega) | (intro hx; omega) | rfl)
              simp only [Act.put, List.setIfInBounds_toArray, List.set_cons_zero, List.set_cons_succ]
              refine qw_run (v := .pointer (some ⟨wr.heap.size, 2, none⟩)) (by rfl) ?_ ?_
              · (intro w1 hC; obtain ⟨⟨x0, x1, x2, x3⟩, ⟨y0, y1⟩, ⟨b0, b1, b2, b3⟩, -⟩ := hC; go_simp; first | done | (simp; done) | (simp [*]; done) | omega | (simp; omega) | (rw [IntKind.wrap_i64]; omega) | (intro hx; omega) | rfl)
              simp only [Act.put, List.setIfInBounds_toArray, List.set_cons_zero, List.set_cons_succ]
              refine qw_run (v := .int .i64 pn) (by rfl) ?_ ?_
              · (intro w1 hC; obtain ⟨⟨x0, x1, x2, x3⟩, ⟨y0, y1⟩, ⟨b0, b1, b2, b3⟩, -⟩ := hC; go_simp; first | done | (simp; done) | (simp [*]; done) | omega | (simp; omega) | (rw [IntKind.wrap_i64]; omega) | (intro hx; omega) | rfl)
              simp only [Act.put, List.setIfInBounds_toArray, List.set_cons_zero, List.set_cons_succ]
              refine qw_run (v := .pointer (some ⟨(w.heap.size + 3), 0, none⟩)) (by rfl) ?_ ?_
              · (intro w1 hC; obtain ⟨⟨x0, x1, x2, x3⟩, ⟨y0, y1⟩, ⟨b0, b1, b2, b3⟩, -⟩ := hC; go_simp; first | done | (simp; done) | (simp [*]; done) | omega | (simp; omega) | (rw [IntKind.wrap_i64]; omega) | (intro hx; omega) | rfl)
              simp only [Act.put, List.setIfInBounds_toArray, List.set_cons_zero, List.set_cons_succ]
              refine qw_run (v := .pointer (some ⟨(w.heap.size + 3), 2, none⟩)) (by rfl) ?_ ?_
              · (intro w1 hC; obtain ⟨⟨x0, x1, x2, x3⟩, ⟨y0, y1⟩, ⟨b0, b1, b2, b3⟩, -⟩ := hC; go_simp; first | done | (simp; done) | (simp [*]; done) | omega | (simp; omega) | (rw [IntKind.wrap_i64]; omega) | (intro hx; omega) | rfl)
              simp only [Act.put, List.setIfInBounds_toArray, List.set_cons_zero, List.set_cons_succ]
              refine qw_run (v := .int .i64 bn) (by rfl) ?_ ?_
              · (intro w1 hC; obtain ⟨⟨x0, x1, x2, x3⟩, ⟨y0, y1⟩, ⟨b0, b1, b2, b3⟩, -⟩ := hC; go_simp; first | done | (simp; done) | (simp [*]; done) | omega | (simp; omega) | (rw [IntKind.wrap_i64]; omega) | (intro hx; omega) | rfl)
              simp only [Act.put, List.setIfInBounds_toArray, List.set_cons_zero, List.set_cons_succ]
              refine qw_run (v := .bool false) (by rfl) ?_ ?_
              · (intro w1 hC; obtain ⟨⟨x0, x1, x2, x3⟩, ⟨y0, y1⟩, ⟨b0, b1, b2, b3⟩, -⟩ := hC; go_simp; first | done | (simp; done) | (simp [*]; done) | omega | (simp; omega) | (rw [IntKind.wrap_i64]; omega) | (intro hx; omega) | rfl)
              simp only [Act.put, List.setIfInBounds_toArray, List.set_cons_zero, List.set_cons_succ]
              refine qw_run (v := .bool false) (by rfl) ?_ ?_
              · (intro w1 hC; obtain ⟨⟨x0, x1, x2, x3⟩, ⟨y0, y1⟩, ⟨b0, b1, b2, b3⟩, -⟩ := hC; go_simp; first | done | (simp; done) | (simp [*]; done) | omega | (simp; omega) | (rw [IntKind.wrap_i64]; omega) | (intro hx; omega) | rfl)
              simp only [Act.put, List.setIfInBounds_toArray, List.set_cons_zero, List.set_cons_succ]
              refine qw_run (v := .bool false) (by rfl) ?_ ?_
              · (intro w1 hC; obtain ⟨⟨x0, x1, x2, x3⟩, ⟨y0, y1⟩, ⟨b0, b1, b2, b3⟩, -⟩ := hC; go_simp; first | done | (simp; done) | (simp [*]; done) | omega | (simp; omega) | (rw [IntKind.wrap_i64]; omega) | (intro hx; omega) | rfl)
              simp only [Act.put, List.setIfInBounds_toArray, List.set_cons_zero, List.set_cons_succ]
              refine qw_nil ?_
              intro W6 hC6
              have HC6 := hidR hC6.2.2.2
              clear hC6 KC
              have HJ := hidR (HM.out W6 HC6.out).1
              clear HM HC6
              go_wp2
              go_roundw
              case rel => exact ⟨k + 1, some ((bx, bn), bh), by omega, by go_num, rfl, HD2, HJ⟩
              case measure => simp [intOf]; omega
        · have dcm : decide (pn ≤ cm) = false := by simpa using hcm
          rw [dcm] at HH
          have HD2 : Hid (mat x bo (l.drop (k + 1)) = mo) := hidR (by rw [← HG.out, HD.out, HH.out]; simp)
          have HJ : Hid (∀ W6, Below (wr.alloc (.cells #[.int .u64 (hI px), .int .u64 (lI px), .int .i64 pn, .int .i64 ph] 45)).heap.size (wr.alloc (.cells #[.int .u64 (hI px), .int .u64 (lI px), .int .i64 pn, .int .i64 ph] 45)) W6 → MtI w F (.slice (some ⟨b, off, none⟩) l.length c) x (bX bo) (bN bo) (hopM bo) W6) := hidR (fun W6 h => (HM.out W6 h).1)
          clear HD HG HH HM
          revert HC
          generalize hbx : bX bo = bx at HJ ⊢
          generalize hbn : bN bo = bn at HJ ⊢
          generalize hbh : hopM bo = bh at HJ ⊢
          intro HC
          have HBX : Hid (bX bo = bx ∧ bN bo = bn ∧ hopM bo = bh) := hidR ⟨hbx, hbn, hbh⟩
          clear hbx hbn hbh
          go_wp2_with fail
          refine qw_region (C := MtC (w.heap.size + 1) wr.heap.size (w.heap.size + 3) px pn ph x bx bn bh (wr.alloc (.cells #[.int .u64 (hI px), .int .u64 (lI px), .int .i64 pn, .int .i64 ph] 45))) (by kernel_rfl) (by kernel_rfl) HC.out.drew ?_
          clear HC
          refine qw_run (v := .pointer (some ⟨wr.heap.size, 0, none⟩)) (by rfl) ?_ ?_
          · (intro w1 hC; obtain ⟨⟨x0, x1, x2, x3⟩, ⟨y0, y1⟩, ⟨b0, b1, b2, b3⟩, -⟩ := hC; go_simp; first | done | (simp; done) | (simp [*]; done) | omega | (simp; omega) | (rw [IntKind.wrap_i64]; omega) | (intro hx; omega) | rfl)
          simp only [Act.put, List.setIfInBounds_toArray, List.set_cons_zero, List.set_cons_succ]
          refine qw_run (v := .pointer (some ⟨wr.heap.size, 0, none⟩)) (by rfl) ?_ ?_
          · (intro w1 hC; obtain ⟨⟨x0, x1, x2, x3⟩, ⟨y0, y1⟩, ⟨b0, b1, b2, b3⟩, -⟩ := hC; go_simp; first | done | (simp; done) | (simp [*]; done) | omega | (simp; omega) | (rw [IntKind.wrap_i64]; omega) | (intro hx; omega) | rfl)
          simp only [Act.put, List.setIfInBounds_toArray, List.set_cons_zero, List.set_cons_succ]
          refine qw_run (v := .agg #[.int .u64 (hI px), .int .u64 (lI px)]) (by rfl) ?_ ?_
          · (intro w1 hC; obtain ⟨⟨x0, x1, x2, x3⟩, ⟨y0, y1⟩, ⟨b0, b1, b2, b3⟩, -⟩ := hC; go_simp; first | done | (simp; done) | (simp [*]; done) | omega | (simp; omega) | (rw [IntKind.wrap_i64]; omega) | (intro hx; omega) | rfl)
          simp only [Act.put, List.setIfInBounds_toArray, List.set_cons_zero, List.set_cons_succ]
          refine qw_run (v := .agg #[.int .u64 (hI x), .int .u64 (lI x)]) (by rfl) ?_ ?_
          · (intro w1 hC; obtain ⟨⟨x0, x1, x2, x3⟩, ⟨y0, y1⟩, ⟨b0, b1, b2, b3⟩, -⟩ := hC; go_simp; first | done | (simp; done) | (simp [*]; done) | omega | (simp; omega) | (rw [IntKind.wrap_i64]; omega) | (intro hx; omega) | rfl)
          simp only [Act.put, List.setIfInBounds_toArray, List.set_cons_zero, List.set_cons_succ]
          refine qw_call (v := .int .i64 cm) (f := 36) (args := #[.agg #[.int .u64 (hI px), .int .u64 (lI px)], .agg #[.int .u64 (hI x), .int .u64 (lI x)]]) (by rfl) ?_ ?_ ?_
          · (intro w1 hC; clear hC; go_simp)
          · exact fun w1 hC => (KC w1).mono fun e w' ⟨he, hb⟩ => ⟨he, hC.below hb⟩
          simp only [Act.put, List.setIfInBounds_toArray, List.set_cons_zero, List.set_cons_succ]
          refine qw_run (v := .pointer (some ⟨wr.heap.size, 0, none⟩)) (by rfl) ?_ ?_
          · (intro w1 hC; obtain ⟨⟨x0, x1, x2, x3⟩, ⟨y0, y1⟩, ⟨b0, b1, b2, b3⟩, -⟩ := hC; go_simp; first | done | (simp; done) | (simp [*]; done) | omega | (simp; omega) | (rw [IntKind.wrap_i64]; omega) | (intro hx; omega) | rfl)
          simp only [Act.put, List.setIfInBounds_toArray, List.set_cons_zero, List.set_cons_succ]
          refine qw_run (v := .pointer (some ⟨wr.heap.size, 2, none⟩)) (by rfl) ?_ ?_
          · (intro w1 hC; obtain ⟨⟨x0, x1, x2, x3⟩, ⟨y0, y1⟩, ⟨b0, b1, b2, b3⟩, -⟩ := hC; go_simp; first | done | (simp; done) | (simp [*]; done) | omega | (simp; omega) | (rw [IntKind.wrap_i64]; omega) | (intro hx; omega) | rfl)
          simp only [Act.put, List.setIfInBounds_toArray, List.set_cons_zero, List.set_cons_succ]
          refine qw_run (v := .int .i64 pn) (by rfl) ?_ ?_
          · (intro w1 hC; obtain ⟨⟨x0, x1, x2, x3⟩, ⟨y0, y1⟩, ⟨b0, b1, b2, b3⟩, -⟩ := hC; go_simp; first | done | (simp; done) | (simp [*]; done) | omega | (simp; omega) | (rw [IntKind.wrap_i64]; omega) | (intro hx; omega) | rfl)
          simp only [Act.put, List.setIfInBounds_toArray, List.set_cons_zero, List.set_cons_succ]
          refine qw_run (v := .bool false) (by rfl) ?_ ?_
          · (intro w1 hC; obtain ⟨⟨x0, x1, x2, x3⟩, ⟨y0, y1⟩, ⟨b0, b1, b2, b3⟩, -⟩ := hC; go_simp; first | done | (simp; done) | (simp [*]; done) | omega | (simp; omega) | (rw [IntKind.wrap_i64]; omega) | (intro hx; omega) | rfl)
          simp only [Act.put, List.setIfInBounds_toArray, List.set_cons_zero, List.set_cons_succ]
          refine qw_run (v := .bool false) (by rfl) ?_ ?_
          · (intro w1 hC; obtain ⟨⟨x0, x1, x2, x3⟩, ⟨y0, y1⟩, ⟨b0, b1, b2, b3⟩, -⟩ := hC; go_simp; first | done | (simp; done) | (simp [*]; done) | omega | (simp; omega) | (rw [IntKind.wrap_i64]; omega) | (intro hx; omega) | rfl)
          simp only [Act.put, List.setIfInBounds_toArray, List.set_cons_zero, List.set_cons_succ]
          refine qw_skip (by rfl) ?_
          simp only [Act.put, List.setIfInBounds_toArray, List.set_cons_zero, List.set_cons_succ]
          refine qw_skip (by rfl) ?_
          simp only [Act.put, List.setIfInBounds_toArray, List.set_cons_zero, List.set_cons_succ]
          refine qw_skip (by rfl) ?_
          simp only [Act.put, List.setIfInBounds_toArray, List.set_cons_zero, List.set_cons_succ]
          refine qw_skip (by rfl) ?_
          simp only [Act.put, List.setIfInBounds_toArray, List.set_cons_zero, List.set_cons_succ]
          refine qw_skip (by rfl) ?_
          simp only [Act.put, List.setIfInBounds_toArray, List.set_cons_zero, List.set_cons_succ]
          refine qw_skip (by rfl) ?_
          simp only [Act.put, List.setIfInBounds_toArray, List.set_cons_zero, List.set_cons_succ]
          refine qw_skip (by rfl) ?_
          simp only [Act.put, List.setIfInBounds_toArray, List.set_cons_zero, List.set_cons_succ]
          refine qw_skip (by rfl) ?_
          simp only [Act.put, List.setIfInBounds_toArray, List.set_cons_zero, List.set_cons_succ]
          refine qw_skip (by rfl) ?_
          simp only [Act.put, List.setIfInBounds_toArray, List.set_cons_zero, List.set_cons_succ]
          refine qw_skip (by rfl) ?_
          simp only [Act.put, List.setIfInBounds_toArray, List.set_cons_zero, List.set_cons_succ]
          refine qw_skip (by rfl) ?_
          simp only [Act.put, List.setIfInBounds_toArray, List.set_cons_zero, List.set_cons_succ]
          refine qw_run (v := .bool false) (by rfl) ?_ ?_
          · (intro w1 hC; obtain ⟨⟨x0, x1, x2, x3⟩, ⟨y0, y1⟩, ⟨b0, b1, b2, b3⟩, -⟩ := hC; go_simp; first | done | (simp; done) | (simp [*]; done) | omega | (simp; omega) | (rw [IntKind.wrap_i64]; omega) | (intro hx; omega) | rfl)
          simp only [Act.put, List.setIfInBounds_toArray, List.set_cons_zero, List.set_cons_succ]
          refine qw_nil ?_
          intro W6 hC6
          have HC6 := hidR hC6.2.2.2
          clear hC6 KC
          have HJ6 := hidR (HJ.out W6 HC6.out)
          clear HJ HC6
          go_wp2
          go_roundw
          case rel => exact ⟨k + 1, bo, by omega, by go_num, rfl, HD2, by rw [HBX.out.1, HBX.out.2.1, HBX.out.2.2]; exact HJ6⟩
          case measure => simp [intOf]; omega
    · have hd : ¬ k < l.length := by omega
      have HE : Hid (mo = bo) := hidR (by rw [← HG.out, List.drop_eq_nil_of_le (by omega)]; rfl)
      obtain ⟨⟨b0, b1, b2, b3⟩, f0, f1, f2, f3⟩ := HI.out.b
      obtain ⟨⟨z0, z1, z2, z3⟩, g0, g1, g2, g3⟩ := HI.out.z
      obtain ⟨⟨s0, s1, s2, s3⟩, -⟩ := HI.out.z.set4 (bX bo) (bN bo) (hopM bo)
      have HB := hidR (bset4m (C := w.heap.size + 2) HI.out.bel (by omega) (.int .u64 (hI (bX bo))) (.int .u64 (lI (bX bo))) (.int .i64 (bN bo)) (.int .i64 (hopM bo)))
      clear HG HI
      go_wp2
      exact bodyPost_ret (v := .tuple #[.agg #[.int .u64 (hI (bX bo)), .int .u64 (lI (bX bo)), .int .i64 (bN bo), .int .i64 (hopM bo)], .bool bo.isSome]) (by simp [results, Try.results18, go_sem, s0, s1, s2, s3]) rfl ⟨by rw [HE.out], HB.out⟩
end Go.Proofs.Ytnaghiipfgdimaa
