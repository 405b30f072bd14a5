/-
  Part 22 of the proof: 4 texts, one behind the other.
-/
import Derived.Test.YtddjeplceioenaaDoorPart19
import Derived.Test.YtddjeplceioenaaDoorPart20
import Derived.Test.YtddjeplceioenaaDoorPart21
import Derived.Test.YtddjeplceioenaaDoorPart14
import Derived.Deep.RegionHeld3
import Derived.Test.YtddjeplceioenaaDoorPart3
import Derived.Test.YtddjeplceioenaaDoorPart5
import Derived.Test.YtddjeplceioenaaDoorPart17
/-
  What the call of the document's Table of segments does.
-/
namespace Go.Proofs.YtddjeplceioenaaDoor
open Go.RowKit
set_option linter.unusedSimpArgs false
set_option linter.unusedVariables false

/-- What is known while a segment's routes are laid behind the others. -/
structure RvI (w : World) (F : Int) (T0 : Nat) (cb : Nat) (cv : Value) (T : List (BitVec 128 × Int)) (L : List Rte) (dv : Value) (W : World) : Prop where
  t : AtU W T0 F dv
  r : AtU W w.heap.size 0 (.slice none 0 0)
  own : W.ownsRow (T0 + 1) 57 4 dv L.length (rowR L)
  cov : W.ownsRow cb 40 3 cv T.length (rowP T)
  ne2 : ∀ z, cv.ownBlock = some z → dv.ownBlock ≠ some z
  bel : Below w.heap.size w W
  t0 : w.heap.size < T0
  cb0 : T0 < cb
theorem RvI.below {w : World} {F : Int} {T0 cb : Nat} {cv : Value} {T : List (BitVec 128 × Int)} {L : List Rte} {dv : Value} {W W' : World} (k : RvI w F T0 cb cv T L dv W) (hb : Below W.heap.size W W') : RvI w F T0 cb cv T L dv W' :=
  ⟨k.t.heap (hb.block _ k.t.lt), k.r.heap (hb.block _ k.r.lt), own_heap k.own (fun g e => hb.block g (k.own.lt g e).2), own_heap k.cov (fun g e => hb.block g (k.cov.lt g e).2), k.ne2, keepb hb k.bel, k.t0, k.cb0⟩
theorem RvI.step {w : World} {F : Int} {T0 cb : Nat} {cv : Value} {T : List (BitVec 128 × Int)} {L : List Rte} {dv : Value} {W w4 : World} (k : RvI w F T0 cb cv T L dv W) (px : BitVec 128) (pn h : Int) (g cap : Nat)
    (hown : w4.ownsRow (T0 + 1) 57 4 (.slice (some ⟨g, 0, none⟩) (L.length + 1) cap) (L.length + 1) (rowR L ++ [.int .u64 (hI px), .int .u64 (lI px), .int .i64 pn, .int .i64 h])) (hg : W.grownBy w4 dv.ownBlock) (hat : dv.ownBlock = some g ∨ g = W.heap.size) :
    AtU w4 T0 F dv ∧ w4.ownsRow cb 40 3 cv T.length (rowP T) ∧ Below w.heap.size w w4 ∧ RvI w F T0 cb cv T (L ++ [((px, pn), h)]) (.slice (some ⟨g, 0, none⟩) (L.length + 1) cap) (w4.setCell ⟨T0, 1, none⟩ (.slice (some ⟨g, 0, none⟩) (L.length + 1) cap)) := by
  have hT := k.t.lt
  have hR := k.r.lt
  have t0 := k.t0
  have cb0 := k.cb0
  have ob : ∀ z, dv.ownBlock = some z → T0 + 1 ≤ z ∧ z < W.heap.size := fun z e => k.own.lt z e
  have he : ∀ z, z < W.heap.size → dv.ownBlock ≠ some z → w4.heap[z]? = W.heap[z]? := fun z h1 h2 => hg.block z h1 (fun e => h2 e.symm)
  have hT' : w4.heap[T0]? = W.heap[T0]? := he _ hT (fun e => by have := (ob _ e).1; omega)
  have gne : ∀ z, z < W.heap.size → dv.ownBlock ≠ some z → g ≠ z := by
    intro z h1 h2 e
    rcases hat with q | q
    · exact h2 (by rw [q, e])
    · omega
  have gT : g ≠ T0 := gne _ hT (fun e => by have := (ob _ e).1; omega)
  have hB4 : Below w.heap.size w w4 := k.bel.grown hg k.bel.size (fun z e => by have := (ob z e).1; omega)
  have hcv : w4.ownsRow cb 40 3 cv T.length (rowP T) := own_heap k.cov (fun z e => he z (k.cov.lt z e).2 (k.ne2 z e))
  refine ⟨k.t.heap hT', hcv, hB4, ⟨(k.t.heap hT').set1 _, ?_, ?_, ?_, ?_, hB4.setCell (p := ⟨T0, 1, none⟩) (by simp; omega) _, k.t0, k.cb0⟩⟩
  · exact k.r.heap (by rw [hSet _ (by omega), he _ hR (fun e => by have := (ob _ e).1; omega)])
  · rw [show (L ++ [((px, pn), h)]).length = L.length + 1 by simp, rowR_one]
    refine own_heap hown (fun z e => ?_)
    have : z = g := by simpa [Value.ownBlock] using e.symm
    rw [this, hSet _ gT]
  · refine own_heap hcv (fun z e => ?_)
    have hz' := k.cov.lt z e
    rw [hSet _ (by omega)]
  · intro z e e2
    have hz' := k.cov.lt z e
    have : g = z := by simpa [Value.ownBlock] using e2
    exact gne z hz'.2 (k.ne2 z e) this
theorem newsAt7 {W : World} {N : Nat} {x : BitVec 128} {m h : Int} (k : AtR W N x m h) : ∀ j u, [Value.int .u64 (hI x), .int .u64 (lI x), .int .i64 m, .int .i64 h][j]? = some u → W.cell? ((⟨N, 0, none⟩ : Addr).add j) = some u := newsAt k
set_option maxRecDepth 20000 in
set_option maxHeartbeats 16000000 in
theorem rtab6_any (F : Int) (v : Value) (l : List Sg) (w : World) (hv : RwG w v l) (hll : l.length ≤ 1000000000) :
    Calls Tryd.prog 8 #[.int .i64 F, v] w fun e w' => (∃ v', e = .returned (.tuple #[.agg #[.int .i64 (tW F l), v'], .int .i64 (tX F l)]) ∧ w'.ownsRow w.heap.size 57 4 v' (tL F l).length (rowR (tL F l))) ∧ Below w.heap.size w w' := by
  obtain ⟨i0, hi, hz0, hz1, hz2⟩ := info_parts Tryd.infoR6
  have b0 := bl1 w (.cells #[.int .i64 0, .slice none 0 0] 26)
  have KC := rck6_any F v l _ (hv.below b0) hll
  have HU := hidR (atu_new w w.heap.size 0 (.slice none 0 0) 26 rfl)
  have HB := hidR b0
  obtain ⟨ao, c, rfl, hv⟩ := hv
  have HV := hidR hv
  clear b0 hv
  by_cases hce : sgsE F l = 0
  · obtain ⟨y1, y2, y3⟩ := t_yes hce
    rw [y1, y2, y3]
    rw [hce] at KC
    clear y1 y2 y3 hce
    go_enter Tryd.func8, Tryd.ntmps8
    go_wp2_with fail
    refine KC.mono ?_
    rintro e w1 ⟨rfl, hb⟩
    have HB1 := hidR (keepb hb HB.out)
    have HU1 := hidR (HU.out.heap (hb.block _ HU.out.lt))
    have kT := hidR (atu_new w1 w1.heap.size F (.slice none 0 0) 26 rfl)
    have kR := hidR (HU1.out.heap (hAl (.cells #[.int .i64 F, .slice none 0 0] 26) HU1.out.lt))
    have kB := hidR (HB1.out.alloc HB1.out.size (.cells #[.int .i64 F, .slice none 0 0] 26))
    have hT0 := HU1.out.lt
    clear KC hb HB HU HB1 HU1
    go_wp2_with fail
    generalize w1.heap.size = T0 at *
    go_loopw [8] (fun i wr => ∃ (k : Nat) (dv : Value), k ≤ l.length ∧ i = .int .i64 k ∧ Hid (AtU wr T0 F dv) ∧ Hid (AtU wr w.heap.size 0 (.slice none 0 0)) ∧ Hid (wr.ownsRow (T0 + 1) 57 4 dv (covR F (l.take k)).length (rowR (covR F (l.take k)))) ∧ Hid ((covR F (l.take k)).length ≤ 1048576) ∧ Hid (Below w.heap.size w wr)) (fun i _ => l.length - (intOf i).toNat)
    case atStart => exact ⟨0, .slice none 0 0, by omega, rfl, kT, kR, hidR (World.ownsRow_nil _ _ _ _), hidR (by simp [covR]), kB⟩
    case round =>
      clear kT kR kB
      obtain ⟨k, dv, hk, rfl, kT, kR, hown, hsz, kB⟩ := hrel
      by_cases hlt : (k : Int) < (l.length : Int)
      · have hks : k < l.length := by omega
        rcases HV.out with h | ⟨b, off, rfl, hc⟩
        · rw [h] at hks; simp at hks
        · obtain ⟨z0, z1, z2, z3, z4⟩ := rwg_cells hc k hks
          have hz := hidR (cov_zero F l k hks)
          have hp := hidR (cov_part F l k hks)
          have hq : Hid (l[k].2 = 0 ∨ (covR F (l.take k)).length + (covT F l[k].1.1 l[k].1.2).length ≤ (covR F l).length) := hidR (by
            by_cases e : l[k].2 = 0
            · exact .inl e
            · right
              have h1 := cov_sub F l (k + 1)
              rw [cov_part F l k hks e] at h1
              simpa using h1)
          have KC := fun w => rcover_any F l[k].1.1 l[k].1.2 w
          have hTl := covT_len F l[k].1.1 l[k].1.2
          clear hc HV
          revert hz hp hq KC hTl
          generalize hL1 : covR F (l.take (k + 1)) = L1
          generalize covT F l[k].1.1 l[k].1.2 = T
          generalize covE F l[k].1.1 l[k].1.2 = ce
          generalize l[k].1.1 = px at *
          generalize l[k].1.2 = py at *
          generalize l[k].2 = ph at *
          revert hown hsz
          generalize hL0 : covR F (l.take k) = L0
          intro hown hsz hz hp hq KC hTl
          have HL1 := hidR hL1
          clear hL1 hL0
          have HZ : Hid (∀ W, Below w.heap.size w W → W.cell? ⟨b, off + k * 5, none⟩ = some (.int .u64 (hI px)) ∧ W.cell? ⟨b, off + k * 5 + 1, none⟩ = some (.int .u64 (lI px)) ∧ W.cell? ⟨b, off + k * 5 + 2, none⟩ = some (.int .u64 (hI py)) ∧ W.cell? ⟨b, off + k * 5 + 3, none⟩ = some (.int .u64 (lI py)) ∧ W.cell? ⟨b, off + k * 5 + 4, none⟩ = some (.int .i64 ph)) := hidR (fun W hW => ⟨keepc hW z0, keepc hW z1, keepc hW z2, keepc hW z3, keepc hW z4⟩)
          clear z0 z1 z2 z3 z4
          obtain ⟨x0, x1, x2, x3, x4⟩ := HZ.out wr kB.out
          have hk2 : IntKind.i64.wrap ((k : Int) + 1) = (k : Int) + 1 := by rw [IntKind.wrap_i64]; omega
          by_cases h0 : ph = 0
          · have d0 : (ph == 0) = true := by simp [h0]
            have hz := hidR (hz.out h0)
            clear KC hp hq h0
            go_wp2
            go_roundw
            case rel =>
              refine ⟨k + 1, dv, by omega, by simp, kT, kR, ?_, ?_, kB⟩
              · show World.ownsRow _ _ _ _ _ _ _
                rw [HL1.out, hz.out]
                exact hown.out
              · show _ ≤ _
                rw [HL1.out, hz.out]
                exact hsz.out
            case measure => simp [intOf]; omega
          · have d0 : (ph == 0) = false := by simp [h0]
            have hq1 : Hid (L0.length + T.length ≤ (covR F l).length) := hidR (by rcases hq.out with e | e; exact absurd e h0; exact e)
            have hp1 := hidR (hp.out h0)
            clear hz h0 hq hp
            have HA : Hid (∀ W, Below wr.heap.size wr W → W.cell? ⟨b, off + k * 5, none⟩ = some (.int .u64 (hI px)) ∧ W.cell? ⟨b, off + k * 5 + 1, none⟩ = some (.int .u64 (lI px)) ∧ W.cell? ⟨b, off + k * 5 + 2, none⟩ = some (.int .u64 (hI py)) ∧ W.cell? ⟨b, off + k * 5 + 3, none⟩ = some (.int .u64 (lI py)) ∧ Below wr.heap.size wr W) := hidR (fun W hb => by
              obtain ⟨a0, a1, a2, a3, -⟩ := HZ.out W (keepb hb kB.out)
              exact ⟨a0, a1, a2, a3, hb⟩)
            go_wp2_with fail
            have hbl : Below wr.heap.size wr wr.drew := (Below.refl _ _).drew
            go_region_held3 (fun w' => w'.cell? ⟨b, off + k * 5, none⟩ = some (.int .u64 (hI px)) ∧ w'.cell? ⟨b, off + k * 5 + 1, none⟩ = some (.int .u64 (lI px)) ∧ w'.cell? ⟨b, off + k * 5 + 2, none⟩ = some (.int .u64 (hI py)) ∧ w'.cell? ⟨b, off + k * 5 + 3, none⟩ = some (.int .u64 (lI py)) ∧ Below wr.heap.size wr w')
              (first
                | exact HA.out _ hbl
                | (obtain ⟨-, -, -, -, k9⟩ := ‹_ ∧ _ ∧ _ ∧ _ ∧ Below _ _ _›; exact HA.out _ (keepb hb0 k9))
                | (obtain ⟨-, -, -, -, k9⟩ := ‹_ ∧ _ ∧ _ ∧ _ ∧ Below _ _ _›; exact HA.out _ k9))
              (first
                | (go_at_call 25; refine (KC _).mono ?_; rintro e w0 ⟨⟨cv, rfl, hcov⟩, hb0⟩))
            obtain ⟨-, -, -, -, k9⟩ := ‹_ ∧ _ ∧ _ ∧ _ ∧ Below _ _ _›
            have HC := hidR (⟨kT.out.heap (k9.block _ kT.out.lt), kR.out.heap (k9.block _ kR.out.lt), own_heap hown.out (fun g e => k9.block g (hown.out.lt g e).2), hcov, (fun z e e2 => by have h1 := (hown.out.lt z e2).2; have h2 := (hcov.lt z e).1; exact absurd h1 (Nat.not_lt.mpr h2)), keepb k9 kB.out, hT0, kT.out.lt⟩ : RvI w F T0 wr.heap.size cv T L0 dv w0)
            obtain ⟨ac, cc, rfl⟩ := own_form hcov
            obtain ⟨ad, cd, rfl⟩ := own_form hown.out
            clear KC hb0 hcov kT kR hown kB x0 x1 x2 x3 x4 k9 HA hbl
            have hszn := hsz.out
            generalize wr.heap.size = cb at *
            go_wp2_with fail
            go_loopw [11] (fun jv W => ∃ (j : Nat) (dw : Value), j ≤ T.length ∧ jv = .int .i64 j ∧ Hid (RvI w F T0 cb (.slice ac T.length cc) T (L0 ++ (T.take j).map (fun p => (p, ph))) dw W)) (fun jv _ => T.length - (intOf jv).toNat)
            case atStart => exact ⟨0, _, by omega, rfl, by simpa using HC⟩
            case round =>
              clear HC
              obtain ⟨j, dw, hj, rfl, HC⟩ := hrel
              by_cases hjl : (j : Int) < (T.length : Int)
              · have hjs : j < T.length := by omega
                obtain ⟨g, hcg, -⟩ : ∃ g, ac = some ⟨g, 0, none⟩ ∧ True := by
                  rcases HC.out.cov.2 with ⟨e, e2⟩ | ⟨g, cap, cur, e, _⟩
                  · omega
                  · injection e with e1
                    exact ⟨g, e1, trivial⟩
                subst hcg
                have HY : Hid (∀ W : World, W.ownsRow cb 40 3 (.slice (some ⟨g, 0, none⟩) T.length cc) T.length (rowP T) → W.cell? ⟨g, j * 3, none⟩ = some (.int .u64 (hI T[j].1)) ∧ W.cell? ⟨g, j * 3 + 1, none⟩ = some (.int .u64 (lI T[j].1)) ∧ W.cell? ⟨g, j * 3 + 2, none⟩ = some (.int .i64 T[j].2)) := hidR (fun W h => rowP_cells6 h j hjs)
                have HA := hidR (cov_app T L0 ph j hjs)
                have hsz2 := cov_size T L0 ph j
                revert HC HA hsz2 HY
                generalize L0 ++ (T.take j).map (fun p => (p, ph)) = L
                generalize T[j].1 = qx
                generalize T[j].2 = qn
                intro HC HY HA hsz2
                obtain ⟨ae, ce2, rfl⟩ := own_form HC.out.own
                have mj : IntKind.i64.wrap ((j : Int) + 1) = (j : Int) + 1 := by rw [IntKind.wrap_i64]; omega
                go_wp2_with fail
                refine ap_region 14 12 13 (alOk (qpOk 14 12 (by decide) (fun N => by kernel_rfl) (by kernel_rfl) (by kernel_rfl) (by kernel_rfl) (by kernel_rfl)) (by decide) rfl rfl (by kernel_rfl)) (alOk (qpOk 14 13 (by decide) (fun N => by kernel_rfl) (by kernel_rfl) (by kernel_rfl) (by kernel_rfl) (by kernel_rfl)) (by decide) rfl rfl (by kernel_rfl)) (by decide) (by kernel_rfl) (D := fun W => RvI w F T0 cb (.slice (some ⟨g, 0, none⟩) T.length cc) T L (.slice ae L.length ce2) W) (C1 := fun N W => RvI w F T0 cb (.slice (some ⟨g, 0, none⟩) T.length cc) T L (.slice ae L.length ce2) W ∧ AtR W N qx qn ph) (C2 := fun N M W => AtU W T0 F (.slice ae L.length ce2) ∧ W.ownsRow cb 40 3 (.slice (some ⟨g, 0, none⟩) T.length cc) T.length (rowP T) ∧ Below w.heap.size w W ∧ RvI w F T0 cb (.slice (some ⟨g, 0, none⟩) T.length cc) T (L ++ [((qx, qn), ph)]) (valT (L.length + 1) M) (W.setCell ⟨T0, 1, none⟩ (valT (L.length + 1) M))) [some 54, some 55, some 56, some 57, some 58, some 59, some 60, some 61, some 62, some 63, some 64, some 65, some 66, some 67] (fun N M => [.pointer (some ⟨T0, 1, none⟩), .slice ae L.length ce2, .slice (some ⟨g, 0, none⟩) T.length cc, .int .i64 (j : Int), .pointer (some ⟨g, j * 3, none⟩), .agg #[.int .u64 (hI qx), .int .u64 (lI qx), .int .i64 qn], .slice (some ⟨b, off, none⟩) l.length c, .int .i64 (k : Int), .pointer (some ⟨b, off + k * 5, none⟩), .pointer (some ⟨b, off + k * 5 + 4, none⟩), .int .i64 ph, .agg #[.int .u64 (hI qx), .int .u64 (lI qx), .int .i64 qn, .int .i64 ph], .slice (some ⟨N, 0, none⟩) 1 1, valT (L.length + 1) M]) (fun N => .slice (some ⟨N, 0, none⟩) 1 1) (fun M => valT (L.length + 1) M) 66 67 [65] [55, 66] (by kernel_rfl) (fun N M => by kernel_rfl) rfl rfl ?hA4 ?hA41 ?hA42 (by kernel_rfl) (by kernel_rfl) (by decide) (by decide) ?h14 ?h24 (HC.out.below (below_drewN (Below.refl _ _) 1)) ?walk4 ?fin4
                case hA4 => intro N M; simp only [putAll, Act.put, List.setIfInBounds_toArray, List.set_cons_zero, List.set_cons_succ]; try rfl
                case hA41 => intro N M; simp only [putAll, Act.put, List.setIfInBounds_toArray, List.set_cons_zero, List.set_cons_succ]; try rfl
                case hA42 => intro N M; simp only [putAll, Act.put, List.setIfInBounds_toArray, List.set_cons_zero, List.set_cons_succ]; try rfl
                case h14 =>
                  intro W a' hC hr K Q' hK
                  have e65 : a'.tmps[65]? = some (.agg #[.int .u64 (hI qx), .int .u64 (lI qx), .int .i64 qn, .int .i64 ph]) := (hr 65 (by simp)).trans (by simp only [putAll, Act.put, List.setIfInBounds_toArray, List.set_cons_zero, List.set_cons_succ]; rfl)
                  have hK' := hK W.heap.size (W.alloc (.cells #[.int .u64 (hI qx), .int .u64 (lI qx), .int .i64 qn, .int .i64 ph] 57)) ⟨hC.below (bl1 W _), atr_new W W.heap.size qx qn ph 57 rfl⟩
                  clear hr
                  unfold Oper.wp
                  simp [execOp, e65, go_sem, Oper.upon]
                  exact hK'
                case h24 =>
                  intro N W a' hC hr K Q' hK
                  have e55 : a'.tmps[55]? = some (.slice ae L.length ce2) := (hr 55 (by simp)).trans (by simp only [putAll, Act.put, List.setIfInBounds_toArray, List.set_cons_zero, List.set_cons_succ]; rfl)
                  have e66 : a'.tmps[66]? = some (.slice (some ⟨N, 0, none⟩) 1 1) := (hr 66 (by simp)).trans (by simp only [putAll, Act.put, List.setIfInBounds_toArray, List.set_cons_zero, List.set_cons_succ]; rfl)
                  refine wp_append_lies W (.tmp 55) (.tmp 66) 24 rfl (T0 + 1) 57 i0 (.agg #[.int .u64 0, .int .u64 0, .int .i64 0, .int .i64 0]) 4 32 Tryd.underlying24 hi hz0 hz1 hz2 rfl (by decide) (.slice ae L.length ce2) L.length (rowR L) (by simp [Act.eval, e55]) hC.1.own ⟨N, 0, none⟩ 1 1 [.int .u64 (hI qx), .int .u64 (lI qx), .int .i64 qn, .int .i64 ph] (by simp [Act.eval, e66]) rfl (newsAt7 hC.2) (fourAt _ _ _ _) (by decide) (by unfold maxLen; omega) (by omega) (by have := hC.1.t.lt; omega) _ rfl ?_
                  intro g4 cap4 w4 hown4 hgrow hat hlt4
                  obtain ⟨M, hM⟩ := decN_ex g4 cap4
                  have eM : (.slice (some ⟨g4, 0, none⟩) (L.length + 1) cap4 : Value) = valT (L.length + 1) M := by rw [valT, hM]
                  obtain ⟨q1, q2, q3, q4⟩ := hC.1.step qx qn ph g4 cap4 hown4 hgrow hat
                  rw [eM] at q4
                  rw [eM]
                  exact hK M w4 ⟨q1, q2, q3, q4⟩
                case walk4 =>
                  intro N M X hX
                  have hXD : ∀ W, X W → AtU W T0 F (.slice ae L.length ce2) ∧ (W.cell? ⟨g, j * 3, none⟩ = some (.int .u64 (hI qx)) ∧ W.cell? ⟨g, j * 3 + 1, none⟩ = some (.int .u64 (lI qx)) ∧ W.cell? ⟨g, j * 3 + 2, none⟩ = some (.int .i64 qn)) ∧ W.cell? ⟨b, off + k * 5 + 4, none⟩ = some (.int .i64 ph) := by
                    rcases hX with rfl | rfl | rfl
                    · exact fun W h => ⟨h.t, HY.out W h.cov, (HZ.out W h.bel).2.2.2.2⟩
                    · exact fun W h => ⟨h.1.t, HY.out W h.1.cov, (HZ.out W h.1.bel).2.2.2.2⟩
                    · exact fun W h => ⟨h.1, HY.out W h.2.1, (HZ.out W h.2.2.1).2.2.2.2⟩
                  clear hX HC HY HZ
                  dsimp only [rep, List.take, List.modify, List.modifyTailIdx, List.modifyTailIdx.go, List.modifyHead]
                  refine q_run (v := .pointer (some ⟨T0, 1, none⟩)) (by rfl) ?_ ?_
                  · (intro w1 hC; obtain ⟨⟨a0, a1, -, -⟩, ⟨r0, r1, r2⟩, r3⟩ := hXD w1 hC; clear hC; go_simp; first | done | (simp; done) | (simp [*]; done) | omega | (simp; omega) | (rw [IntKind.wrap_i64]; omega) | (intro hx; omega) | rfl)
                  simp only [Act.put, List.setIfInBounds_toArray, List.set_cons_zero, List.set_cons_succ]
                  refine q_run (v := .slice ae L.length ce2) (by rfl) ?_ ?_
                  · (intro w1 hC; obtain ⟨⟨a0, a1, -, -⟩, ⟨r0, r1, r2⟩, r3⟩ := hXD w1 hC; clear hC; go_simp; first | done | (simp; done) | (simp [*]; done) | omega | (simp; omega) | (rw [IntKind.wrap_i64]; omega) | (intro hx; omega) | rfl)
                  simp only [Act.put, List.setIfInBounds_toArray, List.set_cons_zero, List.set_cons_succ]
                  refine q_run (v := .slice (some ⟨g, 0, none⟩) T.length cc) (by rfl) ?_ ?_
                  · (intro w1 hC; obtain ⟨⟨a0, a1, -, -⟩, ⟨r0, r1, r2⟩, r3⟩ := hXD w1 hC; clear hC; go_simp; first | done | (simp; done) | (simp [*]; done) | omega | (simp; omega) | (rw [IntKind.wrap_i64]; omega) | (intro hx; omega) | rfl)
                  simp only [Act.put, List.setIfInBounds_toArray, List.set_cons_zero, List.set_cons_succ]
                  refine q_run (v := .int .i64 (j : Int)) (by rfl) ?_ ?_
                  · (intro w1 hC; obtain ⟨⟨a0, a1, -, -⟩, ⟨r0, r1, r2⟩, r3⟩ := hXD w1 hC; clear hC; go_simp; first | done | (simp; done) | (simp [*]; done) | omega | (simp; omega) | (rw [IntKind.wrap_i64]; omega) | (intro hx; omega) | rfl)
                  simp only [Act.put, List.setIfInBounds_toArray, List.set_cons_zero, List.set_cons_succ]
                  refine q_run (v := .pointer (some ⟨g, j * 3, none⟩)) (by rfl) ?_ ?_
                  · (intro w1 hC; obtain ⟨⟨a0, a1, -, -⟩, ⟨r0, r1, r2⟩, r3⟩ := hXD w1 hC; clear hC; go_simp; first | done | (simp; done) | (simp [*]; done) | omega | (simp; omega) | (rw [IntKind.wrap_i64]; omega) | (intro hx; omega) | rfl)
                  simp only [Act.put, List.setIfInBounds_toArray, List.set_cons_zero, List.set_cons_succ]
                  refine q_run (v := .agg #[.int .u64 (hI qx), .int .u64 (lI qx), .int .i64 qn]) (by rfl) ?_ ?_
                  · (intro w1 hC; obtain ⟨⟨a0, a1, -, -⟩, ⟨r0, r1, r2⟩, r3⟩ := hXD w1 hC; clear hC; go_simp; first | done | (simp; done) | (simp [*]; done) | omega | (simp; omega) | (rw [IntKind.wrap_i64]; omega) | (intro hx; omega) | rfl)
                  simp only [Act.put, List.setIfInBounds_toArray, List.set_cons_zero, List.set_cons_succ]
                  refine q_run (v := .slice (some ⟨b, off, none⟩) l.length c) (by rfl) ?_ ?_
                  · (intro w1 hC; obtain ⟨⟨a0, a1, -, -⟩, ⟨r0, r1, r2⟩, r3⟩ := hXD w1 hC; clear hC; go_simp; first | done | (simp; done) | (simp [*]; done) | omega | (simp; omega) | (rw [IntKind.wrap_i64]; omega) | (intro hx; omega) | rfl)
                  simp only [Act.put, List.setIfInBounds_toArray, List.set_cons_zero, List.set_cons_succ]
                  refine q_run (v := .int .i64 (k : Int)) (by rfl) ?_ ?_
                  · (intro w1 hC; obtain ⟨⟨a0, a1, -, -⟩, ⟨r0, r1, r2⟩, r3⟩ := hXD w1 hC; clear hC; go_simp; first | done | (simp; done) | (simp [*]; done) | omega | (simp; omega) | (rw [IntKind.wrap_i64]; omega) | (intro hx; omega) | rfl)
                  simp only [Act.put, List.setIfInBounds_toArray, List.set_cons_zero, List.set_cons_succ]
                  refine q_run (v := .pointer (some ⟨b, off + k * 5, none⟩)) (by rfl) ?_ ?_
                  · (intro w1 hC; obtain ⟨⟨a0, a1, -, -⟩, ⟨r0, r1, r2⟩, r3⟩ := hXD w1 hC; clear hC; go_simp; first | done | (simp; done) | (simp [*]; done) | omega | (simp; omega) | (rw [IntKind.wrap_i64]; omega) | (intro hx; omega) | rfl)
                  simp only [Act.put, List.setIfInBounds_toArray, List.set_cons_zero, List.set_cons_succ]
                  refine q_run (v := .pointer (some ⟨b, off + k * 5 + 4, none⟩)) (by rfl) ?_ ?_
                  · (intro w1 hC; obtain ⟨⟨a0, a1, -, -⟩, ⟨r0, r1, r2⟩, r3⟩ := hXD w1 hC; clear hC; go_simp; first | done | (simp; done) | (simp [*]; done) | omega | (simp; omega) | (rw [IntKind.wrap_i64]; omega) | (intro hx; omega) | rfl)
                  simp only [Act.put, List.setIfInBounds_toArray, List.set_cons_zero, List.set_cons_succ]
                  refine q_run (v := .int .i64 ph) (by rfl) ?_ ?_
                  · (intro w1 hC; obtain ⟨⟨a0, a1, -, -⟩, ⟨r0, r1, r2⟩, r3⟩ := hXD w1 hC; clear hC; go_simp; first | done | (simp; done) | (simp [*]; done) | omega | (simp; omega) | (rw [IntKind.wrap_i64]; omega) | (intro hx; omega) | rfl)
                  simp only [Act.put, List.setIfInBounds_toArray, List.set_cons_zero, List.set_cons_succ]
                  refine q_run (v := .agg #[.int .u64 (hI qx), .int .u64 (lI qx), .int .i64 qn, .int .i64 ph]) (by rfl) ?_ ?_
                  · (intro w1 hC; obtain ⟨⟨a0, a1, -, -⟩, ⟨r0, r1, r2⟩, r3⟩ := hXD w1 hC; clear hC; go_simp; first | done | (simp; done) | (simp [*]; done) | omega | (simp; omega) | (rw [IntKind.wrap_i64]; omega) | (intro hx; omega) | rfl)
                  simp only [Act.put, List.setIfInBounds_toArray, List.set_cons_zero, List.set_cons_succ]
                  refine q_run (v := .slice (some ⟨N, 0, none⟩) 1 1) (by rfl) ?_ ?_
                  · (intro w1 hC; obtain ⟨⟨a0, a1, -, -⟩, ⟨r0, r1, r2⟩, r3⟩ := hXD w1 hC; clear hC; go_simp; first | done | (simp; done) | (simp [*]; done) | omega | (simp; omega) | (rw [IntKind.wrap_i64]; omega) | (intro hx; omega) | rfl)
                  simp only [Act.put, List.setIfInBounds_toArray, List.set_cons_zero, List.set_cons_succ]
                  refine q_run (v := valT (L.length + 1) M) (by rfl) ?_ ?_
                  · (intro w1 hC; obtain ⟨⟨a0, a1, -, -⟩, ⟨r0, r1, r2⟩, r3⟩ := hXD w1 hC; clear hC; go_simp; first | done | (simp; done) | (simp [*]; done) | omega | (simp; omega) | (rw [IntKind.wrap_i64]; omega) | (intro hx; omega) | rfl)
                  simp only [Act.put, List.setIfInBounds_toArray, List.set_cons_zero, List.set_cons_succ]
                  refine wpQuiet_nil ?_
                  simp only [putAll, Act.put, List.setIfInBounds_toArray, List.set_cons_zero, List.set_cons_succ]
                case fin4 =>
                  intro N M W hC
                  simp only [putAll, Act.put, List.setIfInBounds_toArray, List.set_cons_zero, List.set_cons_succ]
                  dsimp only [List.drop]
                  obtain ⟨⟨a0, a1, a2, a3⟩, -, -, hS⟩ := hC
                  obtain ⟨g5, c5, hd⟩ : ∃ g5 c5, valT (L.length + 1) M = .slice (some ⟨g5, 0, none⟩) (L.length + 1) c5 := ⟨_, _, rfl⟩
                  rw [hd] at hS
                  rw [hd]
                  have HS := hidR hS
                  clear hd hS HC HY
                  go_wp2
                  go_roundw
                  case rel => exact ⟨j + 1, _, by omega, by simp, by rw [HA.out]; exact HS⟩
                  case measure => simp [intOf]; omega
              · have hd : decide ((j : Int) < (T.length : Int)) = false := by simpa using hjl
                have hje : Hid (j = T.length) := hidR (by omega)
                have HF : Hid (RvI w F T0 cb (.slice ac T.length cc) T L1 dw wr) := hidR (by have h9 := HC.out; rw [hje.out] at h9; rw [hp1.out]; exact h9)
                have hLT : L1.length = L0.length + T.length := by rw [hp1.out]; simp
                have HLT := hidR hLT
                have hL1b : L1.length ≤ 2000000 := by omega
                obtain ⟨t0, t1, -, -⟩ := HF.out.t
                obtain ⟨ae, ce2, rfl⟩ := own_form HF.out.own
                clear HC hLT hje
                by_cases hlim : 1048576 < L1.length
                · have dl : decide ((1048576 : Int) < (L1.length : Int)) = true := by simp; omega
                  have hlo : ¬ okL F l = true := by unfold okL; simp; have := hq1.out; have := HLT.out; omega
                  have HLO := hidR (tab_no (F := F) (l := l) (by simpa using hlo))
                  obtain ⟨r0, r1, r2, r3⟩ := HF.out.r
                  have HB := hidR (bset2 HF.out.bel (Nat.le_refl w.heap.size) (.int .i64 0) (.slice none 0 0))
                  obtain ⟨s0, s1, -, -⟩ := HF.out.r.set2 0 (.slice none 0 0)
                  clear hlo hlim hq1 hp1 HF
                  go_wp2
                  exact bodyPost_ret (v := .tuple #[.agg #[.int .i64 0, .slice none 0 0], .int .i64 16]) (by simp [results, Tryd.results8, go_sem, s0, s1]) rfl ⟨⟨.slice none 0 0, by rw [HLO.out.1, HLO.out.2.1], by rw [HLO.out.2.2]; exact World.ownsRow_nil _ _ _ _⟩, HB.out⟩
                · have dl : decide ((1048576 : Int) < (L1.length : Int)) = false := by simp; omega
                  have HZ2 : Hid (L1.length ≤ 1048576) := hidR (by omega)
                  clear hp1 hlim
                  go_wp2
                  go_roundw
                  case rel =>
                    refine ⟨k + 1, _, by omega, by simp, hidR HF.out.t, hidR HF.out.r, ?_, ?_, hidR HF.out.bel⟩
                    · show World.ownsRow _ _ _ _ _ _ _
                      rw [HL1.out]
                      exact HF.out.own
                    · show _ ≤ _
                      rw [HL1.out]
                      exact HZ2.out
                  case measure => simp [intOf]; omega
      · have hd : decide ((k : Int) < (l.length : Int)) = false := by simpa using hlt
        have hke : l.take k = l := List.take_of_length_le (by omega)
        rw [hke] at hown hsz
        have hlo : okL F l = true := by unfold okL; simpa using hsz.out
        have HLO := hidR (tab_yes hlo)
        obtain ⟨t0, t1, -, -⟩ := kT.out
        obtain ⟨r0, r1, r2, r3⟩ := kR.out
        have hTR : ¬ T0 = w.heap.size := by omega
        have HB := hidR (bset2 kB.out (Nat.le_refl w.heap.size) (.int .i64 F) dv)
        have HO : Hid ((((wr.setCell ⟨w.heap.size, 0, none⟩ (.int .i64 F)).setCell ⟨w.heap.size, 1, none⟩ dv)).ownsRow w.heap.size 57 4 dv (covR F l).length (rowR (covR F l))) := hidR (own_wide (own_heap hown.out (fun g e => by
          have := (hown.out.lt g e).1
          rw [hSet _ (by omega), hSet _ (by omega)])) (by omega))
        obtain ⟨s0, s1, -, -⟩ := kR.out.set2 F dv
        clear hke hlo
        obtain ⟨ad, cd, rfl⟩ := own_form hown.out
        go_wp2
        exact bodyPost_ret (v := .tuple #[.agg #[.int .i64 F, .slice ad (covR F l).length cd], .int .i64 0]) (by simp [results, Tryd.results8, go_sem, s0, s1]) rfl ⟨⟨.slice ad (covR F l).length cd, by rw [HLO.out.1, HLO.out.2.1], by rw [HLO.out.2.2]; exact HO.out⟩, HB.out⟩
  · obtain ⟨y1, y2, y3⟩ := t_no hce
    rw [y1, y2, y3]
    revert KC hce
    generalize sgsE F l = ce
    intro KC hce
    have hn : (ce != 0) = true := by simp [hce]
    clear y1 y2 y3 HV
    go_enter Tryd.func8, Tryd.ntmps8
    go_wp2_with fail
    refine KC.mono ?_
    rintro e w1 ⟨rfl, hb⟩
    have HU1 := hidR (HU.out.heap (hb.block _ HU.out.lt))
    obtain ⟨u0, u1, u2, u3⟩ := HU1.out
    have HB2 := hidR (bset2 (keepb hb HB.out) (Nat.le_refl w.heap.size) (.int .i64 0) (.slice none 0 0))
    obtain ⟨s0, s1, -, -⟩ := HU1.out.set2 0 (.slice none 0 0)
    clear KC hb HB HU hce
    go_wp2
    exact bodyPost_ret (v := .tuple #[.agg #[.int .i64 0, .slice none 0 0], .int .i64 ce]) (by simp [results, Tryd.results8, go_sem, s0, s1]) rfl ⟨⟨.slice none 0 0, rfl, World.ownsRow_nil _ _ _ _⟩, HB2.out⟩
end Go.Proofs.YtddjeplceioenaaDoor
/-
  What the call of the law's SameSegs (of two that are the same) does.
-/
namespace Go.Proofs.YtddjeplceioenaaDoor
open Go.RowKit
set_option linter.unusedSimpArgs false
set_option linter.unusedVariables false

theorem eqG_run (x y : BitVec 128) (h : Int) (w : World) :
    (Op.equalIn 10000 46 (.agg #[.int .u64 (hI x), .int .u64 (lI x), .int .u64 (hI y), .int .u64 (lI y), .int .i64 h]) (.agg #[.int .u64 (hI x), .int .u64 (lI x), .int .u64 (hI y), .int .u64 (lI y), .int .i64 h])).run Tryd.prog w = .ok true w := by
  go_simp
set_option maxHeartbeats 4000000 in
theorem sameSegs_any (v u : Value) (l : List Sg) (w : World) (hv : RwG w v l) (hu : RwG w u l) (hl : l.length ≤ 1000000000) :
    Calls Tryd.prog 9 #[v, u] w fun e w' => e = .returned (.bool true) ∧ Below w.heap.size w w' := by
  obtain ⟨ao, c, rfl, hv⟩ := hv
  obtain ⟨au, d, rfl, hu⟩ := hu
  have HV := hidR hv
  have HU := hidR hu
  clear hv hu
  go_enter Tryd.func9, Tryd.ntmps9
  go_wp2_with fail
  go_loopw [5] (fun i wr => ∃ k : Nat, k ≤ l.length ∧ i = .int .i64 k ∧ Below w.heap.size w wr) (fun i _ => l.length - (intOf i).toNat)
  case atStart => exact ⟨0, by omega, rfl, Below.refl _ _⟩
  case round =>
    obtain ⟨k, hk, rfl, hB⟩ := hrel
    by_cases hlt : (k : Int) < (l.length : Int)
    · have hks : k < l.length := by omega
      rcases HV.out with e | ⟨b, off, rfl, hc⟩
      · rw [e] at hks; simp at hks
      · rcases HU.out with e | ⟨b', off', rfl, hc'⟩
        · rw [e] at hks; simp at hks
        · obtain ⟨x0, x1, x2, x3, x4⟩ := rwg_cells hc k hks
          obtain ⟨y0, y1, y2, y3, y4⟩ := rwg_cells hc' k hks
          have x0 := keepc hB x0
          have x1 := keepc hB x1
          have x2 := keepc hB x2
          have x3 := keepc hB x3
          have x4 := keepc hB x4
          have y0 := keepc hB y0
          have y1 := keepc hB y1
          have y2 := keepc hB y2
          have y3 := keepc hB y3
          have y4 := keepc hB y4
          have hE := fun w => eqG_run l[k].1.1 l[k].1.2 l[k].2 w
          generalize l[k].1.1 = px at *
          generalize l[k].1.2 = pn at *
          generalize l[k].2 = ph at *
          have mk : IntKind.i64.wrap ((k : Int) + 1) = (k : Int) + 1 := by rw [IntKind.wrap_i64]; omega
          clear hc hc' HV HU
          go_wp2_with fail
          go_quiet (fail)
          go_wp2
          go_roundw
          case rel => exact ⟨k + 1, by omega, by go_num, below_drewN hB _⟩
          case measure => simp [intOf]; omega
    · have hd : ¬ k < l.length := by omega
      clear HV HU
      go_wp2
      go_ret
      exact ⟨rfl, hB⟩
end Go.Proofs.YtddjeplceioenaaDoor
/-
  A table whose neighbours are in order is in order.
-/
namespace Go.Proofs.YtddjeplceioenaaDoor
open Go.RowKit

theorem ord_adj {l : List Rte} (h : Adj l) : OrdR l := by
  intro a b hb hab
  induction b with
  | zero => omega
  | succ b ih =>
    have h1 := (pcmp_lt _ _ _ _).1 (h b hb)
    rcases Nat.lt_or_eq_of_le (Nat.le_of_lt_succ hab) with q | q
    · have h2 := (pcmp_lt _ _ _ _).1 (ih (by omega) q)
      refine (pcmp_lt _ _ _ _).2 ?_
      omega
    · subst q
      exact h a hb
end Go.Proofs.YtddjeplceioenaaDoor
/-
  What the calls of the law's SameRoutes, Same (of two that are the same) and Right do.
-/
namespace Go.Proofs.YtddjeplceioenaaDoor
open Go.RowKit
set_option linter.unusedSimpArgs false
set_option linter.unusedVariables false

theorem eqR_run (x : BitVec 128) (n h : Int) (w : World) :
    (Op.equalIn 10000 57 (.agg #[.int .u64 (hI x), .int .u64 (lI x), .int .i64 n, .int .i64 h]) (.agg #[.int .u64 (hI x), .int .u64 (lI x), .int .i64 n, .int .i64 h])).run Tryd.prog w = .ok true w := by
  go_simp
set_option maxHeartbeats 4000000 in
theorem sameRoutes_any (v u : Value) (l : List Rte) (w : World) (hv : RwR w v l) (hu : RwR w u l) (hl : l.length ≤ 1000000000) :
    Calls Tryd.prog 26 #[v, u] w fun e w' => e = .returned (.bool true) ∧ Below w.heap.size w w' := by
  obtain ⟨ao, c, rfl, hv⟩ := hv
  obtain ⟨au, d, rfl, hu⟩ := hu
  have HV := hidR hv
  have HU := hidR hu
  clear hv hu
  go_enter Tryd.func26, Tryd.ntmps26
  go_wp2_with fail
  go_loopw [5] (fun i wr => ∃ k : Nat, k ≤ l.length ∧ i = .int .i64 k ∧ Below w.heap.size w wr) (fun i _ => l.length - (intOf i).toNat)
  case atStart => exact ⟨0, by omega, rfl, Below.refl _ _⟩
  case round =>
    obtain ⟨k, hk, rfl, hB⟩ := hrel
    by_cases hlt : (k : Int) < (l.length : Int)
    · have hks : k < l.length := by omega
      rcases HV.out with e | ⟨b, off, rfl, hc⟩
      · rw [e] at hks; simp at hks
      · rcases HU.out with e | ⟨b', off', rfl, hc'⟩
        · rw [e] at hks; simp at hks
        · obtain ⟨x0, x1, x2, x3⟩ := rwr_cells hc k hks
          obtain ⟨y0, y1, y2, y3⟩ := rwr_cells hc' k hks
          have x0 := keepc hB x0
          have x1 := keepc hB x1
          have x2 := keepc hB x2
          have x3 := keepc hB x3
          have y0 := keepc hB y0
          have y1 := keepc hB y1
          have y2 := keepc hB y2
          have y3 := keepc hB y3
          have hE := fun w => eqR_run l[k].1.1 l[k].1.2 l[k].2 w
          generalize l[k].1.1 = px at *
          generalize l[k].1.2 = pn at *
          generalize l[k].2 = ph at *
          have mk : IntKind.i64.wrap ((k : Int) + 1) = (k : Int) + 1 := by rw [IntKind.wrap_i64]; omega
          clear hc hc' HV HU
          go_wp2_with fail
          go_quiet (fail)
          go_wp2
          go_roundw
          case rel => exact ⟨k + 1, by omega, by go_num, below_drewN hB _⟩
          case measure => simp [intOf]; omega
    · have hd : ¬ k < l.length := by omega
      clear HV HU
      go_wp2
      go_ret
      exact ⟨rfl, hB⟩
set_option maxHeartbeats 2000000 in
theorem sameT_any (F : Int) (v u : Value) (l : List Rte) (w : World) (hv : RwR w v l) (hu : RwR w u l) (hl : l.length ≤ 1000000000) :
    Calls Tryd.prog 10 #[.agg #[.int .i64 F, v], .agg #[.int .i64 F, u]] w fun e w' => e = .returned (.bool true) ∧ Below w.heap.size w w' := by
  have b1 := bl1 w (.cells #[.int .i64 F, v] 26)
  have b2 := bl1 (w.alloc (.cells #[.int .i64 F, v] 26)) (.cells #[.int .i64 F, u] 26)
  have KS := sameRoutes_any v u l _ ((hv.below b1).below b2) ((hu.below b1).below b2) hl
  obtain ⟨p0, p1⟩ := (att_new w w.heap.size F v 26 rfl).below b2
  obtain ⟨q0, q1⟩ := att_new (w.alloc (.cells #[.int .i64 F, v] 26)) (w.heap.size + 1) F u 26 (by simp)
  have HB := hidR (keepb b2 b1)
  obtain ⟨ao, c, rfl, -⟩ := hv
  obtain ⟨au, d, rfl, -⟩ := hu
  clear b1 b2
  go_enter Tryd.func10, Tryd.ntmps10
  go_wp2_with fail
  refine KS.mono ?_
  rintro e w1 ⟨rfl, hb⟩
  have kB := keepb hb HB.out
  clear KS hb HB p0 p1 q0 q1
  go_wp2
  go_ret
  exact ⟨rfl, kB⟩
/-- Is a table right? -/
def RightT (F : Int) (l : List Rte) : Prop := l.length ≤ 3000 ∧ rtsE F l = 0 ∧ Adj l
set_option maxHeartbeats 2000000 in
theorem rightT_any (F : Int) (v : Value) (l : List Rte) (w : World) (hv : RwR w v l) :
    Calls Tryd.prog 11 #[.agg #[.int .i64 F, v]] w fun e w' => (∃ r : Bool, (r = true → RightT F l) ∧ e = .returned (.bool r)) ∧ Below w.heap.size w w' := by
  have b1 := bl1 w (.cells #[.int .i64 F, v] 26)
  have KC := rcheckT_any F v l _ (hv.below b1)
  obtain ⟨p0, p1⟩ := att_new w w.heap.size F v 26 rfl
  have HB := hidR b1
  obtain ⟨ao, c, rfl, -⟩ := hv
  clear b1
  by_cases hl : l.length ≤ 3000
  · have h1 : (l.length : Int) ≤ 3000 := by omega
    go_enter Tryd.func11, Tryd.ntmps11
    go_wp2_with fail
    refine KC.mono ?_
    rintro e w1 ⟨⟨z, hz, rfl⟩, hb⟩
    have kB := keepb hb HB.out
    have HE : Hid ((z == 0) = true → RightT F l) := hidR (fun h => by
      have h0 : z = 0 := by simpa using h
      subst h0
      have hr : rtsE F l = 0 := Classical.byContradiction fun hn => hn (hz.1 hn).symm
      refine ⟨hl, hr, ?_⟩
      rcases hz.2 hr with ⟨q, -⟩ | ⟨-, q⟩
      · exact q
      · omega)
    clear KC hb HB p0 p1 hz
    go_wp2
    go_ret
    exact ⟨⟨z == 0, HE.out, rfl⟩, kB⟩
  · have h1 : ¬ (l.length : Int) ≤ 3000 := by omega
    clear KC
    go_enter Tryd.func11, Tryd.ntmps11
    go_wp2
    go_ret
    exact ⟨.inl rfl, HB.out⟩
end Go.Proofs.YtddjeplceioenaaDoor
