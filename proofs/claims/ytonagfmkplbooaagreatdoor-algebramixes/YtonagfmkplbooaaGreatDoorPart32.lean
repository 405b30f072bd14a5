/-
  Part 32 of the proof: 2 texts, one behind the other.
-/
import Derived.Test.YtonagfmkplbooaaGreatDoorPart27
import Derived.Test.YtonagfmkplbooaaGreatDoorPart30
import Derived.Test.YtonagfmkplbooaaGreatDoorPart31
import Derived.Test.YtonagfmkplbooaaGreatDoorPart17
import Derived.Deep.RegionHeld3
import Derived.Test.YtonagfmkplbooaaGreatDoorPart6
/-
  What the call of the document's Table of segments does.
-/
namespace Go.Proofs.YtonagfmkplbooaaGreatDoor
open Go.RowKit
set_option linter.unusedSimpArgs false
set_option linter.unusedVariables false

/-- What is known while a segment's routes are laid behind the others. -/
structure RvI (w : World) (F : Int) (T0 : Nat) (cb : Nat) (cv : Value) (T : List (BitVec 128 × Int)) (L : List Rte) (dv : Value) (W : World) : Prop where
  t : AtU W T0 F dv
  r : AtU W w.heap.size 0 (.slice none 0 0)
  own : W.ownsRow (T0 + 1) 45 4 dv L.length (rowR L)
  cov : W.ownsRow cb 29 3 cv T.length (rowP T)
  ne2 : ∀ z, cv.ownBlock = some z → dv.ownBlock ≠ some z
  bel : Below w.heap.size w W
  t0 : w.heap.size < T0
  cb0 : T0 < cb
theorem RvI.below {w : World} {F : Int} {T0 cb : Nat} {cv : Value} {T : List (BitVec 128 × Int)} {L : List Rte} {dv : Value} {W W' : World} (k : RvI w F T0 cb cv T L dv W) (hb : Below W.heap.size W W') : RvI w F T0 cb cv T L dv W' :=
  ⟨k.t.heap (hb.block _ k.t.lt), k.r.heap (hb.block _ k.r.lt), own_heap k.own (fun g e => hb.block g (k.own.lt g e).2), own_heap k.cov (fun g e => hb.block g (k.cov.lt g e).2), k.ne2, keepb hb k.bel, k.t0, k.cb0⟩
theorem RvI.step {w : World} {F : Int} {T0 cb : Nat} {cv : Value} {T : List (BitVec 128 × Int)} {L : List Rte} {dv : Value} {W w4 : World} (k : RvI w F T0 cb cv T L dv W) (px : BitVec 128) (pn h : Int) (g cap : Nat)
    (hown : w4.ownsRow (T0 + 1) 45 4 (.slice (some ⟨g, 0, none⟩) (L.length + 1) cap) (L.length + 1) (rowR L ++ [.int .u64 (hI px), .int .u64 (lI px), .int .i64 pn, .int .i64 h])) (hg : W.grownBy w4 dv.ownBlock) (hat : dv.ownBlock = some g ∨ g = W.heap.size) :
    AtU w4 T0 F dv ∧ w4.ownsRow cb 29 3 cv T.length (rowP T) ∧ Below w.heap.size w w4 ∧ RvI w F T0 cb cv T (L ++ [((px, pn), h)]) (.slice (some ⟨g, 0, none⟩) (L.length + 1) cap) (w4.setCell ⟨T0, 1, none⟩ (.slice (some ⟨g, 0, none⟩) (L.length + 1) cap)) := by
  have hT := k.t.lt
  have hR := k.r.lt
  have t0 := k.t0
  have cb0 := k.cb0
  have ob : ∀ z, dv.ownBlock = some z → T0 + 1 ≤ z ∧ z < W.heap.size := fun z e => k.own.lt z e
  have he : ∀ z, z < W.heap.size → dv.ownBlock ≠ some z → w4.heap[z]? = W.heap[z]? := fun z h1 h2 => hg.block z h1 (fun e => h2 e.symm)
  have hT' : w4.heap[T0]? = W.heap[T0]? := he _ hT (fun e => by have := (ob _ e).1; omega)
  have gne : ∀ z, z < W.heap.size → dv.ownBlock ≠ some z → g ≠ z := by
    intro z h1 h2 e
    rcases hat with q | q
    · exact h2 (by rw [q, e])
    · omega
  have gT : g ≠ T0 := gne _ hT (fun e => by have := (ob _ e).1; omega)
  have hB4 : Below w.heap.size w w4 := k.bel.grown hg k.bel.size (fun z e => by have := (ob z e).1; omega)
  have hcv : w4.ownsRow cb 29 3 cv T.length (rowP T) := own_heap k.cov (fun z e => he z (k.cov.lt z e).2 (k.ne2 z e))
  refine ⟨k.t.heap hT', hcv, hB4, ⟨(k.t.heap hT').set1 _, ?_, ?_, ?_, ?_, hB4.setCell (p := ⟨T0, 1, none⟩) (by simp; omega) _, k.t0, k.cb0⟩⟩
  · exact k.r.heap (by rw [hSet _ (by omega), he _ hR (fun e => by have := (ob _ e).1; omega)])
  · rw [show (L ++ [((px, pn), h)]).length = L.length + 1 by simp, rowR_one]
    refine own_heap hown (fun z e => ?_)
    have : z = g := by simpa [Value.ownBlock] using e.symm
    rw [this, hSet _ gT]
  · refine own_heap hcv (fun z e => ?_)
    have hz' := k.cov.lt z e
    rw [hSet _ (by omega)]
  · intro z e e2
    have hz' := k.cov.lt z e
    have : g = z := by simpa [Value.ownBlock] using e2
    exact gne z hz'.2 (k.ne2 z e) this
theorem newsAt7 {W : World} {N : Nat} {x : BitVec 128} {m h : Int} (k : AtR W N x m h) : ∀ j u, [Value.int .u64 (hI x), .int .u64 (lI x), .int .i64 m, .int .i64 h][j]? = some u → W.cell? ((⟨N, 0, none⟩ : Addr).add j) = some u := newsAt k
set_option maxRecDepth 20000 in
set_option maxHeartbeats 16000000 in
theorem rtab6_any (F : Int) (v : Value) (l : List Sg) (w : World) (hv : RwG w v l) (hll : l.length ≤ 1000000000) :
    Calls Tryz.prog 29 #[.int .i64 F, v] w fun e w' => (∃ v', e = .returned (.tuple #[.agg #[.int .i64 (tW F l), v'], .int .i64 (tX F l)]) ∧ w'.ownsRow w.heap.size 45 4 v' (tL F l).length (rowR (tL F l))) ∧ Below w.heap.size w w' := by
  obtain ⟨i0, hi, hz0, hz1, hz2⟩ := info_parts Tryz.infoR6
  have b0 := bl1 w (.cells #[.int .i64 0, .slice none 0 0] 24)
  have KC := rck6_any F v l _ (hv.below b0) hll
  have HU := hidR (atu_new w w.heap.size 0 (.slice none 0 0) 24 rfl)
  have HB := hidR b0
  obtain ⟨ao, c, rfl, hv⟩ := hv
  have HV := hidR hv
  clear b0 hv
  by_cases hce : sgsE F l = 0
  · obtain ⟨y1, y2, y3⟩ := t_yes hce
    rw [y1, y2, y3]
    rw [hce] at KC
    clear y1 y2 y3 hce
    go_enter Tryz.func29, Tryz.ntmps29
    go_wp2_with fail
    refine KC.mono ?_
    rintro e w1 ⟨rfl, hb⟩
    have HB1 := hidR (keepb hb HB.out)
    have HU1 := hidR (HU.out.heap (hb.block _ HU.out.lt))
    have kT := hidR (atu_new w1 w1.heap.size F (.slice none 0 0) 24 rfl)
    have kR := hidR (HU1.out.heap (hAl (.cells #[.int .i64 F, .slice none 0 0] 24) HU1.out.lt))
    have kB := hidR (HB1.out.alloc HB1.out.size (.cells #[.int .i64 F, .slice none 0 0] 24))
    have hT0 := HU1.out.lt
    clear KC hb HB HU HB1 HU1
    go_wp2_with fail
    generalize w1.heap.size = T0 at *
    go_loopw [8] (fun i wr => ∃ (k : Nat) (dv : Value), k ≤ l.length ∧ i = .int .i64 k ∧ Hid (AtU wr T0 F dv) ∧ Hid (AtU wr w.heap.size 0 (.slice none 0 0)) ∧ Hid (wr.ownsRow (T0 + 1) 45 4 dv (covR F (l.take k)).length (rowR (covR F (l.take k)))) ∧ Hid ((covR F (l.take k)).length ≤ 1048576) ∧ Hid (Below w.heap.size w wr)) (fun i _ => l.length - (intOf i).toNat)
    case atStart => exact ⟨0, .slice none 0 0, by omega, rfl, kT, kR, hidR (World.ownsRow_nil _ _ _ _), hidR (by simp [covR]), kB⟩
    case round =>
      clear kT kR kB
      obtain ⟨k, dv, hk, rfl, kT, kR, hown, hsz, kB⟩ := hrel
      by_cases hlt : (k : Int) < (l.length : Int)
      · have hks : k < l.length := by omega
        rcases HV.out with h | ⟨b, off, rfl, hc⟩
        · rw [h] at hks; simp at hks
        · obtain ⟨z0, z1, z2, z3, z4⟩ := rwg_cells hc k hks
          have hz := hidR (cov_zero F l k hks)
          have hp := hidR (cov_part F l k hks)
          have hq : Hid (l[k].2 = 0 ∨ (covR F (l.take k)).length + (covT F l[k].1.1 l[k].1.2).length ≤ (covR F l).length) := hidR (by
            by_cases e : l[k].2 = 0
            · exact .inl e
            · right
              have h1 := cov_sub F l (k + 1)
              rw [cov_part F l k hks e] at h1
              simpa using h1)
          have KC := fun w => rcover_any F l[k].1.1 l[k].1.2 w
          have hTl := covT_len F l[k].1.1 l[k].1.2
          clear hc HV
          revert hz hp hq KC hTl
          generalize hL1 : covR F (l.take (k + 1)) = L1
          generalize covT F l[k].1.1 l[k].1.2 = T
          generalize covE F l[k].1.1 l[k].1.2 = ce
          generalize l[k].1.1 = px at *
          generalize l[k].1.2 = py at *
          generalize l[k].2 = ph at *
          revert hown hsz
          generalize hL0 : covR F (l.take k) = L0
          intro hown hsz hz hp hq KC hTl
          have HL1 := hidR hL1
          clear hL1 hL0
          have HZ : Hid (∀ W, Below w.heap.size w W → W.cell? ⟨b, off + k * 5, none⟩ = some (.int .u64 (hI px)) ∧ W.cell? ⟨b, off + k * 5 + 1, none⟩ = some (.int .u64 (lI px)) ∧ W.cell? ⟨b, off + k * 5 + 2, none⟩ = some (.int .u64 (hI py)) ∧ W.cell? ⟨b, off + k * 5 + 3, none⟩ = some (.int .u64 (lI py)) ∧ W.cell? ⟨b, off + k * 5 + 4, none⟩ = some (.int .i64 ph)) := hidR (fun W hW => ⟨keepc hW z0, keepc hW z1, keepc hW z2, keepc hW z3, keepc hW z4⟩)
          clear z0 z1 z2 z3 z4
          obtain ⟨x0, x1, x2, x3, x4⟩ := HZ.out wr kB.out
          have hk2 : IntKind.i64.wrap ((k : Int) + 1) = (k : Int) + 1 := by rw [IntKind.wrap_i64]; omega
          by_cases h0 : ph = 0
          · have d0 : (ph == 0) = true := by simp [h0]
            have hz := hidR (hz.out h0)
            clear KC hp hq h0
            go_wp2
            go_roundw
            case rel =>
              refine ⟨k + 1, dv, by omega, by simp, kT, kR, ?_, ?_, kB⟩
              · show World.ownsRow _ _ _ _ _ _ _
                rw [HL1.out, hz.out]
                exact hown.out
              · show _ ≤ _
                rw [HL1.out, hz.out]
                exact hsz.out
            case measure => simp [intOf]; omega
          · have d0 : (ph == 0) = false := by simp [h0]
            have hq1 : Hid (L0.length + T.length ≤ (covR F l).length) := hidR (by rcases hq.out with e | e; exact absurd e h0; exact e)
            have hp1 := hidR (hp.out h0)
            clear hz h0 hq hp
            have HA : Hid (∀ W, Below wr.heap.size wr W → W.cell? ⟨b, off + k * 5, none⟩ = some (.int .u64 (hI px)) ∧ W.cell? ⟨b, off + k * 5 + 1, none⟩ = some (.int .u64 (lI px)) ∧ W.cell? ⟨b, off + k * 5 + 2, none⟩ = some (.int .u64 (hI py)) ∧ W.cell? ⟨b, off + k * 5 + 3, none⟩ = some (.int .u64 (lI py)) ∧ Below wr.heap.size wr W) := hidR (fun W hb => by
              obtain ⟨a0, a1, a2, a3, -⟩ := HZ.out W (keepb hb kB.out)
              exact ⟨a0, a1, a2, a3, hb⟩)
            go_wp2_with fail
            have hbl : Below wr.heap.size wr wr.drew := (Below.refl _ _).drew
            go_region_held3 (fun w' => w'.cell? ⟨b, off + k * 5, none⟩ = some (.int .u64 (hI px)) ∧ w'.cell? ⟨b, off + k * 5 + 1, none⟩ = some (.int .u64 (lI px)) ∧ w'.cell? ⟨b, off + k * 5 + 2, none⟩ = some (.int .u64 (hI py)) ∧ w'.cell? ⟨b, off + k * 5 + 3, none⟩ = some (.int .u64 (lI py)) ∧ Below wr.heap.size wr w')
              (first
                | exact HA.out _ hbl
                | (obtain ⟨-, -, -, -, k9⟩ := ‹_ ∧ _ ∧ _ ∧ _ ∧ Below _ _ _›; exact HA.out _ (keepb hb0 k9))
                | (obtain ⟨-, -, -, -, k9⟩ := ‹_ ∧ _ ∧ _ ∧ _ ∧ Below _ _ _›; exact HA.out _ k9))
              (first
                | (go_at_call 55; refine (KC _).mono ?_; rintro e w0 ⟨⟨cv, rfl, hcov⟩, hb0⟩))
            obtain ⟨-, -, -, -, k9⟩ := ‹_ ∧ _ ∧ _ ∧ _ ∧ Below _ _ _›
            have HC := hidR (⟨kT.out.heap (k9.block _ kT.out.lt), kR.out.heap (k9.block _ kR.out.lt), own_heap hown.out (fun g e => k9.block g (hown.out.lt g e).2), hcov, (fun z e e2 => by have h1 := (hown.out.lt z e2).2; have h2 := (hcov.lt z e).1; exact absurd h1 (Nat.not_lt.mpr h2)), keepb k9 kB.out, hT0, kT.out.lt⟩ : RvI w F T0 wr.heap.size cv T L0 dv w0)
            obtain ⟨ac, cc, rfl⟩ := own_form hcov
            obtain ⟨ad, cd, rfl⟩ := own_form hown.out
            clear KC hb0 hcov kT kR hown kB x0 x1 x2 x3 x4 k9 HA hbl
            have hszn := hsz.out
            generalize wr.heap.size = cb at *
            go_wp2_with fail
            go_loopw [11] (fun jv W => ∃ (j : Nat) (dw : Value), j ≤ T.length ∧ jv = .int .i64 j ∧ Hid (RvI w F T0 cb (.slice ac T.length cc) T (L0 ++ (T.take j).map (fun p => (p, ph))) dw W)) (fun jv _ => T.length - (intOf jv).toNat)
            case atStart => exact ⟨0, _, by omega, rfl, by simpa using HC⟩
            case round =>
              clear HC
              obtain ⟨j, dw, hj, rfl, HC⟩ := hrel
              by_cases hjl : (j : Int) < (T.length : Int)
              · have hjs : j < T.length := by omega
                obtain ⟨g, hcg, -⟩ : ∃ g, ac = some ⟨g, 0, none⟩ ∧ True := by
                  rcases HC.out.cov.2 with ⟨e, e2⟩ | ⟨g, cap, cur, e, _⟩
                  · omega
                  · injection e with e1
                    exact ⟨g, e1, trivial⟩
                subst hcg
                have HY : Hid (∀ W : World, W.ownsRow cb 29 3 (.slice (some ⟨g, 0, none⟩) T.length cc) T.length (rowP T) → W.cell? ⟨g, j * 3, none⟩ = some (.int .u64 (hI T[j].1)) ∧ W.cell? ⟨g, j * 3 + 1, none⟩ = some (.int .u64 (lI T[j].1)) ∧ W.cell? ⟨g, j * 3 + 2, none⟩ = some (.int .i64 T[j].2)) := hidR (fun W h => rowP_cells6 h j hjs)
                have HA := hidR (cov_app T L0 ph j hjs)
                have hsz2 := cov_size T L0 ph j
                revert HC HA hsz2 HY
                generalize L0 ++ (T.take j).map (fun p => (p, ph)) = L
                generalize T[j].1 = qx
                generalize T[j].2 = qn
                intro HC HY HA hsz2
                obtain ⟨ae, ce2, rfl⟩ := own_form HC.out.own
                have mj : IntKind.i64.wrap ((j : Int) + 1) = (j : Int) + 1 := by rw [IntKind.wrap_i64]; omega
                go_wp2_with fail
                refine ap_region 14 12 13 (alOk (qpOk 14 12 (by decide) (fun N => by kernel_rfl) (by kernel_rfl) (by kernel_rfl) (by kernel_rfl) (by kernel_rfl)) (by decide) rfl rfl (by kernel_rfl)) (alOk (qpOk 14 13 (by decide) (fun N => by kernel_rfl) (by kernel_rfl) (by kernel_rfl) (by kernel_rfl) (by kernel_rfl)) (by decide) rfl rfl (by kernel_rfl)) (by decide) (by kernel_rfl) (D := fun W => RvI w F T0 cb (.slice (some ⟨g, 0, none⟩) T.length cc) T L (.slice ae L.length ce2) W) (C1 := fun N W => RvI w F T0 cb (.slice (some ⟨g, 0, none⟩) T.length cc) T L (.slice ae L.length ce2) W ∧ AtR W N qx qn ph) (C2 := fun N M W => AtU W T0 F (.slice ae L.length ce2) ∧ W.ownsRow cb 29 3 (.slice (some ⟨g, 0, none⟩) T.length cc) T.length (rowP T) ∧ Below w.heap.size w W ∧ RvI w F T0 cb (.slice (some ⟨g, 0, none⟩) T.length cc) T (L ++ [((qx, qn), ph)]) (valT (L.length + 1) M) (W.setCell ⟨T0, 1, none⟩ (valT (L.length + 1) M))) [some 54, some 55, some 56, some 57, some 58, some 59, some 60, some 61, some 62, some 63, some 64, some 65, some 66, some 67] (fun N M => [.pointer (some ⟨T0, 1, none⟩), .slice ae L.length ce2, .slice (some ⟨g, 0, none⟩) T.length cc, .int .i64 (j : Int), .pointer (some ⟨g, j * 3, none⟩), .agg #[.int .u64 (hI qx), .int .u64 (lI qx), .int .i64 qn], .slice (some ⟨b, off, none⟩) l.length c, .int .i64 (k : Int), .pointer (some ⟨b, off + k * 5, none⟩), .pointer (some ⟨b, off + k * 5 + 4, none⟩), .int .i64 ph, .agg #[.int .u64 (hI qx), .int .u64 (lI qx), .int .i64 qn, .int .i64 ph], .slice (some ⟨N, 0, none⟩) 1 1, valT (L.length + 1) M]) (fun N => .slice (some ⟨N, 0, none⟩) 1 1) (fun M => valT (L.length + 1) M) 66 67 [65] [55, 66] (by kernel_rfl) (fun N M => by kernel_rfl) rfl rfl ?hA4 ?hA41 ?hA42 (by kernel_rfl) (by kernel_rfl) (by decide) (by decide) ?h14 ?h24 (HC.out.below (below_drewN (Below.refl _ _) 1)) ?walk4 ?fin4
                case hA4 => intro N M; simp only [putAll, Act.put, List.setIfInBounds_toArray, List.set_cons_zero, List.set_cons_succ]; try rfl
                case hA41 => intro N M; simp only [putAll, Act.put, List.setIfInBounds_toArray, List.set_cons_zero, List.set_cons_succ]; try rfl
                case hA42 => intro N M; simp only [putAll, Act.put, List.setIfInBounds_toArray, List.set_cons_zero, List.set_cons_succ]; try rfl
                case h14 =>
                  intro W a' hC hr K Q' hK
                  have e65 : a'.tmps[65]? = some (.agg #[.int .u64 (hI qx), .int .u64 (lI qx), .int .i64 qn, .int .i64 ph]) := (hr 65 (by simp)).trans (by simp only [putAll, Act.put, List.setIfInBounds_toArray, List.set_cons_zero, List.set_cons_succ]; rfl)
                  have hK' := hK W.heap.size (W.alloc (.cells #[.int .u64 (hI qx), .int .u64 (lI qx), .int .i64 qn, .int .i64 ph] 45)) ⟨hC.below (bl1 W _), atr_new W W.heap.size qx qn ph 45 rfl⟩
                  clear hr
                  unfold Oper.wp
                  simp [execOp, e65, go_sem, Oper.upon]
                  exact hK'
                case h24 =>
                  intro N W a' hC hr K Q' hK
                  have e55 : a'.tmps[55]? = some (.slice ae L.length ce2) := (hr 55 (by simp)).trans (by simp only [putAll, Act.put, List.setIfInBounds_toArray, List.set_cons_zero, List.set_cons_succ]; rfl)
                  have e66 : a'.tmps[66]? = some (.slice (some ⟨N, 0, none⟩) 1 1) := (hr 66 (by simp)).trans (by simp only [putAll, Act.put, List.setIfInBounds_toArray, List.set_cons_zero, List.set_cons_succ]; rfl)
                  refine wp_append_lies W (.tmp 55) (.tmp 66) 22 rfl (T0 + 1) 45 i0 (.agg #[.int .u64 0, .int .u64 0, .int .i64 0, .int .i64 0]) 4 32 Tryz.underlying22 hi hz0 hz1 hz2 rfl (by decide) (.slice ae L.length ce2) L.length (rowR L) (by simp [Act.eval, e55]) hC.1.own ⟨N, 0, none⟩ 1 1 [.int .u64 (hI qx), .int .u64 (lI qx), .int .i64 qn, .int .i64 ph] (by simp [Act.eval, e66]) rfl (newsAt7 hC.2) (fourAt _ _ _ _) (by decide) (by unfold maxLen; omega) (by omega) (by have := hC.1.t.lt; omega) _ rfl ?_
                  intro g4 cap4 w4 hown4 hgrow hat hlt4
                  obtain ⟨M, hM⟩ := decN_ex g4 cap4
                  have eM : (.slice (some ⟨g4, 0, none⟩) (L.length + 1) cap4 : Value) = valT (L.length + 1) M := by rw [valT, hM]
                  obtain ⟨q1, q2, q3, q4⟩ := hC.1.step qx qn ph g4 cap4 hown4 hgrow hat
                  rw [eM] at q4
                  rw [eM]
                  exact hK M w4 ⟨q1, q2, q3, q4⟩
                case walk4 =>
                  intro N M X hX
                  have hXD : ∀ W, X W → AtU W T0 F (.slice ae L.length ce2) ∧ (W.cell? ⟨g, j * 3, none⟩ = some (.int .u64 (hI qx)) ∧ W.cell? ⟨g, j * 3 + 1, none⟩ = some (.int .u64 (lI qx)) ∧ W.cell? ⟨g, j * 3 + 2, none⟩ = some (.int .i64 qn)) ∧ W.cell? ⟨b, off + k * 5 + 4, none⟩ = some (.int .i64 ph) := by
                    rcases hX with rfl | rfl | rfl
                    · exact fun W h => ⟨h.t, HY.out W h.cov, (HZ.out W h.bel).2.2.2.2⟩
                    · exact fun W h => ⟨h.1.t, HY.out W h.1.cov, (HZ.out W h.1.bel).2.2.2.2⟩
                    · exact fun W h => ⟨h.1, HY.out W h.2.1, (HZ.out W h.2.2.1).2.2.2.2⟩
                  clear hX HC HY HZ
                  dsimp only [rep, List.take, List.modify, List.modifyTailIdx, List.modifyTailIdx.go, List.modifyHead]
                  refine q_run (v := .pointer (some ⟨T0, 1, none⟩)) (by rfl) ?_ ?_
                  · (intro w1 hC; obtain ⟨⟨a0, a1, -, -⟩, ⟨r0, r1, r2⟩, r3⟩ := hXD w1 hC; clear hC; go_simp; first | done | (simp; done) | (simp [*]; done) | omega | (simp; omega) | (rw [IntKind.wrap_i64]; omega) | (intro hx; omega) | rfl)
                  simp only [Act.put, List.setIfInBounds_toArray, List.set_cons_zero, List.set_cons_succ]
                  refine q_run (v := .slice ae L.length ce2) (by rfl) ?_ ?_
                  · (intro w1 hC; obtain ⟨⟨a0, a1, -, -⟩, ⟨r0, r1, r2⟩, r3⟩ := hXD w1 hC; clear hC; go_simp; first | done | (simp; done) | (simp [*]; done) | omega | (simp; omega) | (rw [IntKind.wrap_i64]; omega) | (intro hx; omega) | rfl)
                  simp only [Act.put, List.setIfInBounds_toArray, List.set_cons_zero, List.set_cons_succ]
                  refine q_run (v := .slice (some ⟨g, 0, none⟩) T.length cc) (by rfl) ?_ ?_
                  · (intro w1 hC; obtain ⟨⟨a0, a1, -, -⟩, ⟨r0, r1, r2⟩, r3⟩ := hXD w1 hC; clear hC; go_simp; first | done | (simp; done) | (simp [*]; done) | omega | (simp; omega) | (rw [IntKind.wrap_i64]; omega) | (intro hx; omega) | rfl)
                  simp only [Act.put, List.setIfInBounds_toArray, List.set_cons_zero, List.set_cons_succ]
                  refine q_run (v := .int .i64 (j : Int)) (by rfl) ?_ ?_
                  · (intro w1 hC; obtain ⟨⟨a0, a1, -, -⟩, ⟨r0, r1, r2⟩, r3⟩ := hXD w1 hC; clear hC; go_simp; first | done | (simp; done) | (simp [*]; done) | omega | (simp; omega) | (rw [IntKind.wrap_i64]; omega) | (intro hx; omega) | rfl)
                  simp only [Act.put, List.setIfInBounds_toArray, List.set_cons_zero, List.set_cons_succ]
                  refine q_run (v := .pointer (some ⟨g, j * 3, none⟩)) (by rfl) ?_ ?_
                  · (intro w1 hC; obtain ⟨⟨a0, a1, -, -⟩, ⟨r0, r1, r2⟩, r3⟩ := hXD w1 hC; clear hC; go_simp; first | done | (simp; done) | (simp [*]; done) | omega | (simp; omega) | (rw [IntKind.wrap_i64]; omega) | (intro hx; omega) | rfl)
                  simp only [Act.put, List.setIfInBounds_toArray, List.set_cons_zero, List.set_cons_succ]
                  refine q_run (v := .agg #[.int .u64 (hI qx), .int .u64 (lI qx), .int .i64 qn]) (by rfl) ?_ ?_
                  · (intro w1 hC; obtain ⟨⟨a0, a1, -, -⟩, ⟨r0, r1, r2⟩, r3⟩ := hXD w1 hC; clear hC; go_simp; first | done | (simp; done) | (simp [*]; done) | omega | (simp; omega) | (rw [IntKind.wrap_i64]; omega) | (intro hx; omega) | rfl)
                  simp only [Act.put, List.setIfInBounds_toArray, List.set_cons_zero, List.set_cons_succ]
                  refine q_run (v := .slice (some ⟨b, off, none⟩) l.length c) (by rfl) ?_ ?_
                  · (intro w1 hC; obtain ⟨⟨a0, a1, -, -⟩, ⟨r0, r1, r2⟩, r3⟩ := hXD w1 hC; clear hC; go_simp; first | done | (simp; done) | (simp [*]; done) | omega | (simp; omega) | (rw [IntKind.wrap_i64]; omega) | (intro hx; omega) | rfl)
                  simp only [Act.put, List.setIfInBounds_toArray, List.set_cons_zero, List.set_cons_succ]
                  refine q_run (v := .int .i64 (k : Int)) (by rfl) ?_ ?_
                  · (intro w1 hC; obtain ⟨⟨a0, a1, -, -⟩, ⟨r0, r1, r2⟩, r3⟩ := hXD w1 hC; clear hC; go_simp; first | done | (simp; done) | (simp [*]; done) | omega | (simp; omega) | (rw [IntKind.wrap_i64]; omega) | (intro hx; omega) | rfl)
                  simp only [Act.put, List.setIfInBounds_toArray, List.set_cons_zero, List.set_cons_succ]
                  refine q_run (v := .pointer (some ⟨b, off + k * 5, none⟩)) (by rfl) ?_ ?_
                  · (intro w1 hC; obtain ⟨⟨a0, a1, -, -⟩, ⟨r0, r1, r2⟩, r3⟩ := hXD w1 hC; clear hC; go_simp; first | done | (simp; done) | (simp [*]; done) | omega | (simp; omega) | (rw [IntKind.wrap_i64]; omega) | (intro hx; omega) | rfl)
                  simp only [Act.put, List.setIfInBounds_toArray, List.set_cons_zero, List.set_cons_succ]
                  refine q_run (v := .pointer (some ⟨b, off + k * 5 + 4, none⟩)) (by rfl) ?_ ?_
                  · (intro w1 hC; obtain ⟨⟨a0, a1, -, -⟩, ⟨r0, r1, r2⟩, r3⟩ := hXD w1 hC; clear hC; go_simp; first | done | (simp; done) | (simp [*]; done) | omega | (simp; omega) | (rw [IntKind.wrap_i64]; omega) | (intro hx; omega) | rfl)
                  simp only [Act.put, List.setIfInBounds_toArray, List.set_cons_zero, List.set_cons_succ]
                  refine q_run (v := .int .i64 ph) (by rfl) ?_ ?_
                  · (intro w1 hC; obtain ⟨⟨a0, a1, -, -⟩, ⟨r0, r1, r2⟩, r3⟩ := hXD w1 hC; clear hC; go_simp; first | done | (simp; done) | (simp [*]; done) | omega | (simp; omega) | (rw [IntKind.wrap_i64]; omega) | (intro hx; omega) | rfl)
                  simp only [Act.put, List.setIfInBounds_toArray, List.set_cons_zero, List.set_cons_succ]
                  refine q_run (v := .agg #[.int .u64 (hI qx), .int .u64 (lI qx), .int .i64 qn, .int .i64 ph]) (by rfl) ?_ ?_
                  · (intro w1 hC; obtain ⟨⟨a0, a1, -, -⟩, ⟨r0, r1, r2⟩, r3⟩ := hXD w1 hC; clear hC; go_simp; first | done | (simp; done) | (simp [*]; done) | omega | (simp; omega) | (rw [IntKind.wrap_i64]; omega) | (intro hx; omega) | rfl)
                  simp only [Act.put, List.setIfInBounds_toArray, List.set_cons_zero, List.set_cons_succ]
                  refine q_run (v := .slice (some ⟨N, 0, none⟩) 1 1) (by rfl) ?_ ?_
                  · (intro w1 hC; obtain ⟨⟨a0, a1, -, -⟩, ⟨r0, r1, r2⟩, r3⟩ := hXD w1 hC; clear hC; go_simp; first | done | (simp; done) | (simp [*]; done) | omega | (simp; omega) | (rw [IntKind.wrap_i64]; omega) | (intro hx; omega) | rfl)
                  simp only [Act.put, List.setIfInBounds_toArray, List.set_cons_zero, List.set_cons_succ]
                  refine q_run (v := valT (L.length + 1) M) (by rfl) ?_ ?_
                  · (intro w1 hC; obtain ⟨⟨a0, a1, -, -⟩, ⟨r0, r1, r2⟩, r3⟩ := hXD w1 hC; clear hC; go_simp; first | done | (simp; done) | (simp [*]; done) | omega | (simp; omega) | (rw [IntKind.wrap_i64]; omega) | (intro hx; omega) | rfl)
                  simp only [Act.put, List.setIfInBounds_toArray, List.set_cons_zero, List.set_cons_succ]
                  refine wpQuiet_nil ?_
                  simp only [putAll, Act.put, List.setIfInBounds_toArray, List.set_cons_zero, List.set_cons_succ]
                case fin4 =>
                  intro N M W hC
                  simp only [putAll, Act.put, List.setIfInBounds_toArray, List.set_cons_zero, List.set_cons_succ]
                  dsimp only [List.drop]
                  obtain ⟨⟨a0, a1, a2, a3⟩, -, -, hS⟩ := hC
                  obtain ⟨g5, c5, hd⟩ : ∃ g5 c5, valT (L.length + 1) M = .slice (some ⟨g5, 0, none⟩) (L.length + 1) c5 := ⟨_, _, rfl⟩
                  rw [hd] at hS
                  rw [hd]
                  have HS := hidR hS
                  clear hd hS HC HY
                  go_wp2
                  go_roundw
                  case rel => exact ⟨j + 1, _, by omega, by simp, by rw [HA.out]; exact HS⟩
                  case measure => simp [intOf]; omega
              · have hd : decide ((j : Int) < (T.length : Int)) = false := by simpa using hjl
                have hje : Hid (j = T.length) := hidR (by omega)
                have HF : Hid (RvI w F T0 cb (.slice ac T.length cc) T L1 dw wr) := hidR (by have h9 := HC.out; rw [hje.out] at h9; rw [hp1.out]; exact h9)
                have hLT : L1.length = L0.length + T.length := by rw [hp1.out]; simp
                have HLT := hidR hLT
                have hL1b : L1.length ≤ 2000000 := by omega
                obtain ⟨t0, t1, -, -⟩ := HF.out.t
                obtain ⟨ae, ce2, rfl⟩ := own_form HF.out.own
                clear HC hLT hje
                by_cases hlim : 1048576 < L1.length
                · have dl : decide ((1048576 : Int) < (L1.length : Int)) = true := by simp; omega
                  have hlo : ¬ okL F l = true := by unfold okL; simp; have := hq1.out; have := HLT.out; omega
                  have HLO := hidR (tab_no (F := F) (l := l) (by simpa using hlo))
                  obtain ⟨r0, r1, r2, r3⟩ := HF.out.r
                  have HB := hidR (bset2 HF.out.bel (Nat.le_refl w.heap.size) (.int .i64 0) (.slice none 0 0))
                  obtain ⟨s0, s1, -, -⟩ := HF.out.r.set2 0 (.slice none 0 0)
                  clear hlo hlim hq1 hp1 HF
                  go_wp2
                  exact bodyPost_ret (v := .tuple #[.agg #[.int .i64 0, .slice none 0 0], .int .i64 16]) (by simp [results, Tryz.results29, go_sem, s0, s1]) rfl ⟨⟨.slice none 0 0, by rw [HLO.out.1, HLO.out.2.1], by rw [HLO.out.2.2]; exact World.ownsRow_nil _ _ _ _⟩, HB.out⟩
                · have dl : decide ((1048576 : Int) < (L1.length : Int)) = false := by simp; omega
                  have HZ2 : Hid (L1.length ≤ 1048576) := hidR (by omega)
                  clear hp1 hlim
                  go_wp2
                  go_roundw
                  case rel =>
                    refine ⟨k + 1, _, by omega, by simp, hidR HF.out.t, hidR HF.out.r, ?_, ?_, hidR HF.out.bel⟩
                    · show World.ownsRow _ _ _ _ _ _ _
                      rw [HL1.out]
                      exact HF.out.own
                    · show _ ≤ _
                      rw [HL1.out]
                      exact HZ2.out
                  case measure => simp [intOf]; omega
      · have hd : decide ((k : Int) < (l.length : Int)) = false := by simpa using hlt
        have hke : l.take k = l := List.take_of_length_le (by omega)
        rw [hke] at hown hsz
        have hlo : okL F l = true := by unfold okL; simpa using hsz.out
        have HLO := hidR (tab_yes hlo)
        obtain ⟨t0, t1, -, -⟩ := kT.out
        obtain ⟨r0, r1, r2, r3⟩ := kR.out
        have hTR : ¬ T0 = w.heap.size := by omega
        have HB := hidR (bset2 kB.out (Nat.le_refl w.heap.size) (.int .i64 F) dv)
        have HO : Hid ((((wr.setCell ⟨w.heap.size, 0, none⟩ (.int .i64 F)).setCell ⟨w.heap.size, 1, none⟩ dv)).ownsRow w.heap.size 45 4 dv (covR F l).length (rowR (covR F l))) := hidR (own_wide (own_heap hown.out (fun g e => by
          have := (hown.out.lt g e).1
          rw [hSet _ (by omega), hSet _ (by omega)])) (by omega))
        obtain ⟨s0, s1, -, -⟩ := kR.out.set2 F dv
        clear hke hlo
        obtain ⟨ad, cd, rfl⟩ := own_form hown.out
        go_wp2
        exact bodyPost_ret (v := .tuple #[.agg #[.int .i64 F, .slice ad (covR F l).length cd], .int .i64 0]) (by simp [results, Tryz.results29, go_sem, s0, s1]) rfl ⟨⟨.slice ad (covR F l).length cd, by rw [HLO.out.1, HLO.out.2.1], by rw [HLO.out.2.2]; exact HO.out⟩, HB.out⟩
  · obtain ⟨y1, y2, y3⟩ := t_no hce
    rw [y1, y2, y3]
    revert KC hce
    generalize sgsE F l = ce
    intro KC hce
    have hn : (ce != 0) = true := by simp [hce]
    clear y1 y2 y3 HV
    go_enter Tryz.func29, Tryz.ntmps29
    go_wp2_with fail
    refine KC.mono ?_
    rintro e w1 ⟨rfl, hb⟩
    have HU1 := hidR (HU.out.heap (hb.block _ HU.out.lt))
    obtain ⟨u0, u1, u2, u3⟩ := HU1.out
    have HB2 := hidR (bset2 (keepb hb HB.out) (Nat.le_refl w.heap.size) (.int .i64 0) (.slice none 0 0))
    obtain ⟨s0, s1, -, -⟩ := HU1.out.set2 0 (.slice none 0 0)
    clear KC hb HB HU hce
    go_wp2
    exact bodyPost_ret (v := .tuple #[.agg #[.int .i64 0, .slice none 0 0], .int .i64 ce]) (by simp [results, Tryz.results29, go_sem, s0, s1]) rfl ⟨⟨.slice none 0 0, rfl, World.ownsRow_nil _ _ _ _⟩, HB2.out⟩
end Go.Proofs.YtonagfmkplbooaaGreatDoor
/-
  Plain facts on numbers: how many prefixes a list of segments takes, where each boundary is an end of one of so many
  prefixes: the paths of the tree, those at the top shared.
-/
namespace Go.Proofs.YtonagfmkplbooaaGreatDoor
set_option linter.unusedSimpArgs false
set_option linter.unusedVariables false

/-- The nodes with something below them, of a tree of d steps with r paths: at each step at most r, at most all. -/
def pthS : Nat → Nat → Nat
  | 0, _ => 0
  | d + 1, r => pthS d r + min (2 ^ d) r
theorem pthS_mono (r s : Nat) (h : r ≤ s) : ∀ d, pthS d r ≤ pthS d s := by
  intro d
  induction d with
  | zero => exact Nat.le_refl _
  | succ d ih => simp only [pthS]; omega
theorem pthS_two (p q : Nat) (h : 1 ≤ p + q) : ∀ d, pthS d p + pthS d q + 1 ≤ pthS (d + 1) (p + q) := by
  intro d
  induction d with
  | zero => simp only [pthS]; omega
  | succ d ih =>
    have e : 2 ^ (d + 1) = 2 * 2 ^ d := by rw [Nat.pow_succ]; omega
    rw [show pthS (d + 1 + 1) (p + q) = pthS (d + 1) (p + q) + min (2 ^ (d + 1)) (p + q) from rfl, show pthS (d + 1) p = pthS d p + min (2 ^ d) p from rfl, show pthS (d + 1) q = pthS d q + min (2 ^ d) q from rfl, e]
    generalize 2 ^ d = z at *
    omega
theorem Cn.le {u c a k : Nat} (h : Cn u c a k) : a ≤ c := by
  induction h with
  | done => exact Nat.le_refl _
  | step a e k h1 h2 h3 h4 ih => have := Nat.two_pow_pos e; omega
/-- A whole block takes one. -/
theorem Cn.whole {u a e k : Nat} (he : e ≤ 128) (hue : u ≤ e) (hd : 2 ^ e ∣ a) (h : Cn u (a + 2 ^ e) a k) : k = 1 := by
  have hp := Nat.two_pow_pos e
  generalize hc : a + 2 ^ e = c at h
  cases h with
  | done => omega
  | step _ f k g1 g2 g3 g4 =>
    have e1 : ¬ e + 1 ≤ f := by
      intro q
      have := (g2.down q).2
      rw [Nat.pow_succ] at this
      omega
    have e2 : ¬ f < e := fun q => g3 ⟨by omega, Rs.down ⟨hd, by omega⟩ q⟩
    have e3 : f = e := by omega
    subst e3
    rw [hc] at g4
    rw [g4.none]
theorem blk_in (x j m a e : Nat) (hm : m = x + 2 ^ j) (hx : 2 ^ (j + 1) ∣ x) (hxa : x ≤ a) (ha : 2 ^ e ∣ a) (h1 : a < m) (h2 : m < a + 2 ^ e) : j + 1 ≤ e := by
  apply Classical.byContradiction
  intro c
  have hej : 2 ^ e ∣ 2 ^ j := Nat.pow_dvd_pow 2 (by omega)
  have hex : 2 ^ e ∣ x := Nat.dvd_trans (Nat.pow_dvd_pow 2 (by omega)) hx
  have hem : 2 ^ e ∣ m := by rw [hm]; exact Nat.dvd_add hex hej
  have := Nat.le_of_dvd (by omega) (Nat.dvd_sub hem ha)
  omega
/-- A cover goes by the middle of a block, if it is not all of it. -/
theorem Cn.part {u c a k : Nat} (h : Cn u c a k) (x j m : Nat) (hm : m = x + 2 ^ j) (hx : 2 ^ (j + 1) ∣ x) (hc : c ≤ x + 2 ^ (j + 1)) (hmc : m ≤ c) (hn : ¬ (a = x ∧ c = x + 2 ^ (j + 1))) : x ≤ a → a ≤ m → ∃ k1 k2, Cn u m a k1 ∧ Cn u c m k2 ∧ k = k1 + k2 := by
  revert hn
  induction h with
  | done => intro hn h1 h2; have : c = m := by omega
            subst this; exact ⟨0, 0, .done, .done, rfl⟩
  | step a e k h1 h2 h3 h4 ih =>
    intro hn g1 g2
    by_cases hq : a = m
    · rw [hq] at h2 h3 h4 ⊢
      exact ⟨0, k + 1, .done, .step _ e k h1 h2 h3 h4, by omega⟩
    · have hp := Nat.two_pow_pos e
      have hpj : 2 ^ (j + 1) = 2 ^ j + 2 ^ j := by rw [Nat.pow_succ]; omega
      have hs : a + 2 ^ e ≤ m := by
        apply Classical.byContradiction
        intro q
        have he := blk_in x j m a e hm hx g1 h2.1 (by omega) (by omega)
        have h5 := (h2.down he).2
        exact hn ⟨by omega, by omega⟩
      obtain ⟨k1, k2, p1, p2, p3⟩ := ih (fun q => by omega) (by omega) hs
      exact ⟨k1 + 1, k2, .step a e k1 h1 ⟨h2.1, hs⟩ (fun q => h3 ⟨q.1, q.2.1, Nat.le_trans q.2.2 hmc⟩) p1, p2, by omega⟩
theorem Cn.parts {u c a k : Nat} (h : Cn u c a k) (x j m : Nat) (hj : j + 1 ≤ 128) (huj : u ≤ j) (hm : m = x + 2 ^ j) (hx : 2 ^ (j + 1) ∣ x) (hc : c ≤ x + 2 ^ (j + 1)) (hmc : m ≤ c) (hxa : x ≤ a) (ham : a ≤ m) : ∃ k1 k2, Cn u m a k1 ∧ Cn u c m k2 ∧ k ≤ k1 + k2 := by
  by_cases hn : a = x ∧ c = x + 2 ^ (j + 1)
  · obtain ⟨rfl, rfl⟩ := hn
    have hpj : 2 ^ (j + 1) = 2 ^ j + 2 ^ j := by rw [Nat.pow_succ]; omega
    have hp := Nat.two_pow_pos j
    have k1 := h.whole (e := j + 1) hj (by omega) hx
    have hd : 2 ^ j ∣ a := Nat.dvd_trans (Nat.pow_dvd_pow 2 (by omega)) hx
    refine ⟨1, 1, ?_, ?_, by omega⟩
    · subst hm
      exact .step a j 0 huj ⟨hd, Nat.le_refl _⟩ (fun q => by have := q.2.2; omega) .done
    · have e : a + 2 ^ (j + 1) = m + 2 ^ j := by omega
      rw [e]
      exact .step m j 0 huj ⟨by rw [hm]; exact Nat.dvd_add hd (Nat.dvd_refl _), Nat.le_refl _⟩ (fun q => by have := q.2.2; omega) .done
  · obtain ⟨k1, k2, p1, p2, p3⟩ := h.part x j m hm hx hc hmc hn hxa ham
    exact ⟨k1, k2, p1, p2, by omega⟩
/-- Segments from a to c, each with its cover; where one ends, B holds. -/
inductive Tot (u : Nat) (B : Nat → Prop) (c : Nat) : Nat → Nat → Prop
  | last (a k : Nat) : a < c → Cn u c a k → Tot u B c a k
  | more (a b k t : Nat) : a < b → b < c → B b → Cn u b a k → Tot u B c b t → Tot u B c a (k + t)
theorem Tot.parts {u : Nat} {B : Nat → Prop} {c a t : Nat} (h : Tot u B c a t) (x j m : Nat) (hj : j + 1 ≤ 128) (huj : u ≤ j) (hm : m = x + 2 ^ j) (hx : 2 ^ (j + 1) ∣ x) (hc : c ≤ x + 2 ^ (j + 1)) (hmc : m < c) : x ≤ a → a < m → ∃ t1 t2, Tot u B m a t1 ∧ Tot u B c m t2 ∧ t ≤ t1 + t2 := by
  induction h with
  | last a k h1 h2 =>
    intro g1 g2
    obtain ⟨k1, k2, p1, p2, p3⟩ := h2.parts x j m hj huj hm hx hc (by omega) g1 (by omega)
    exact ⟨k1, k2, .last _ _ g2 p1, .last _ _ hmc p2, p3⟩
  | more a b k t h1 h2 h3 h4 h5 ih =>
    intro g1 g2
    rcases Nat.lt_trichotomy b m with q | q | q
    · obtain ⟨t1, t2, p1, p2, p3⟩ := ih (by omega) q
      exact ⟨k + t1, t2, .more a b k t1 h1 q h3 h4 p1, p2, by omega⟩
    · subst q
      exact ⟨k, t, .last _ _ g2 h4, h5, Nat.le_refl _⟩
    · obtain ⟨k1, k2, p1, p2, p3⟩ := h4.parts x j m hj huj hm hx (by omega) (by omega) g1 (by omega)
      exact ⟨k1, k2 + t, .last _ _ g2 p1, .more m b k2 t q h2 h3 p2 h5, by omega⟩
/-- An end of a prefix that lies in the midst of a block: the prefix lies in the block. -/
theorem end_in (x j y e b : Nat) (hx : 2 ^ j ∣ x) (hy : 2 ^ e ∣ y) (hb : b = y ∨ b = y + 2 ^ e) (h1 : x < b) (h2 : b < x + 2 ^ j) : x ≤ y ∧ y + 2 ^ e ≤ x + 2 ^ j := by
  have hpe := Nat.two_pow_pos e
  have hpj := Nat.two_pow_pos j
  have hej : e < j := by
    apply Classical.byContradiction
    intro q
    have d1 : 2 ^ j ∣ 2 ^ e := Nat.pow_dvd_pow 2 (by omega)
    have d2 : 2 ^ j ∣ y := Nat.dvd_trans d1 hy
    have d3 : 2 ^ j ∣ b := by
      rcases hb with rfl | rfl
      · exact d2
      · exact Nat.dvd_add d2 d1
    have := Nat.le_of_dvd (by omega) (Nat.dvd_sub d3 hx)
    omega
  have d1 : 2 ^ e ∣ x := Nat.dvd_trans (Nat.pow_dvd_pow 2 (by omega)) hx
  have d2 : 2 ^ e ∣ x + 2 ^ j := Nat.dvd_add d1 (Nat.pow_dvd_pow 2 (by omega))
  have d3 : 2 ^ e ∣ b := by
    rcases hb with rfl | rfl
    · exact hy
    · exact Nat.dvd_add hy (Nat.dvd_refl _)
  have l1 := Nat.le_of_dvd (by omega) (Nat.dvd_sub d3 d1)
  have l2 := Nat.le_of_dvd (by omega) (Nat.dvd_sub d2 d3)
  rcases hb with rfl | rfl <;> omega
/-- Two parts of a list that have nothing in common. -/
theorem two_len {α : Type} (p q : α → Bool) (h : ∀ a, p a = true → q a = true → False) : ∀ l : List α, (l.filter p).length + (l.filter q).length ≤ l.length := by
  intro l
  induction l with
  | nil => simp
  | cons a l ih =>
    rw [List.filter_cons, List.filter_cons]
    by_cases hp : p a = true
    · by_cases hq : q a = true
      · exact absurd (h a hp hq) id
      · rw [if_pos hp, if_neg hq]; simp only [List.length_cons]; omega
    · rw [if_neg hp]
      by_cases hq : q a = true
      · rw [if_pos hq]; simp only [List.length_cons]; omega
      · rw [if_neg hq]; simp only [List.length_cons]; omega
/-- b is an end of one of these prefixes (where it begins, and of how many addresses, as a power). -/
def EndOf (l : List (Nat × Nat)) (b : Nat) : Prop := ∃ p ∈ l, b = p.1 ∨ b = p.1 + 2 ^ p.2
theorem Tot.one {u : Nat} {B : Nat → Prop} {a e t : Nat} (he : e ≤ 128) (hue : u ≤ e) (hd : 2 ^ e ∣ a) (h : Tot u B (a + 2 ^ e) a t) (hB : ∀ b, B b → a < b → b < a + 2 ^ e → False) : t = 1 := by
  cases h with
  | last _ _ h1 h2 => exact h2.whole he hue hd
  | more _ b k t h1 h2 h3 h4 h5 => exact absurd (hB b h3 h1 h2) id
/-- Not more than the paths of the tree take. -/
theorem tot_most (u : Nat) (B : Nat → Prop) (hu : ∀ b, B b → 2 ^ u ∣ b) : ∀ d x t (l : List (Nat × Nat)), u + d ≤ 128 → 2 ^ (u + d) ∣ x → (∀ p ∈ l, 2 ^ p.2 ∣ p.1) → (∀ b, B b → x < b → b < x + 2 ^ (u + d) → EndOf l b) → Tot u B (x + 2 ^ (u + d)) x t → t ≤ 1 + pthS d l.length := by
  intro d
  induction d with
  | zero =>
    intro x t l h1 h2 h3 h4 h5
    have := h5.one h1 (by omega) h2 (fun b hb q1 q2 => by
      have h2' : 2 ^ u ∣ x := h2
      have q2' : b < x + 2 ^ u := q2
      have := Nat.le_of_dvd (by omega) (Nat.dvd_sub (hu b hb) h2')
      omega)
    omega
  | succ d ih =>
    intro x t l h1 h2 h3 h4 h5
    have hpw : 2 ^ (u + (d + 1)) = 2 ^ (u + d) + 2 ^ (u + d) := by rw [← Nat.add_assoc, Nat.pow_succ]; omega
    have hp := Nat.two_pow_pos (u + d)
    have hd : 2 ^ (u + d) ∣ x := Nat.dvd_trans (Nat.pow_dvd_pow 2 (by omega)) h2
    by_cases hl : l = []
    · subst hl
      have := h5.one h1 (by omega) h2 (fun b hb q1 q2 => by
        obtain ⟨p, hp, _⟩ := h4 b hb q1 q2
        cases hp)
      omega
    · have hl1 : 1 ≤ l.length := by
        rcases Nat.eq_zero_or_pos l.length with q | q
        · exact absurd (List.length_eq_zero_iff.mp q) hl
        · exact q
      obtain ⟨t1, t2, p1, p2, p3⟩ := h5.parts x (u + d) (x + 2 ^ (u + d)) (by omega) (by omega) rfl h2 (Nat.le_of_eq (by rw [Nat.add_assoc])) (by omega) (Nat.le_refl _) (by omega)
      have i1 := ih x t1 (l.filter (fun p => decide (x ≤ p.1 ∧ p.1 + 2 ^ p.2 ≤ x + 2 ^ (u + d)))) (by omega) hd (fun p hp => h3 p (List.mem_filter.mp hp).1) (fun b hb q1 q2 => by
        obtain ⟨p, hp, he⟩ := h4 b hb q1 (by omega)
        exact ⟨p, List.mem_filter.mpr ⟨hp, decide_eq_true (end_in x (u + d) p.1 p.2 b hd (h3 p hp) he q1 q2)⟩, he⟩) p1
      have hd2 : 2 ^ (u + d) ∣ x + 2 ^ (u + d) := Nat.dvd_add hd (Nat.dvd_refl _)
      have e2 : x + 2 ^ (u + (d + 1)) = x + 2 ^ (u + d) + 2 ^ (u + d) := by omega
      rw [e2] at p2
      have i2 := ih (x + 2 ^ (u + d)) t2 (l.filter (fun p => decide (x + 2 ^ (u + d) ≤ p.1 ∧ p.1 + 2 ^ p.2 ≤ x + 2 ^ (u + d) + 2 ^ (u + d)))) (by omega) hd2 (fun p hp => h3 p (List.mem_filter.mp hp).1) (fun b hb q1 q2 => by
        obtain ⟨p, hp, he⟩ := h4 b hb (by omega) (by omega)
        exact ⟨p, List.mem_filter.mpr ⟨hp, decide_eq_true (end_in _ (u + d) p.1 p.2 b hd2 (h3 p hp) he q1 q2)⟩, he⟩) p2
      have i3 := two_len (fun p : Nat × Nat => decide (x ≤ p.1 ∧ p.1 + 2 ^ p.2 ≤ x + 2 ^ (u + d))) (fun p : Nat × Nat => decide (x + 2 ^ (u + d) ≤ p.1 ∧ p.1 + 2 ^ p.2 ≤ x + 2 ^ (u + d) + 2 ^ (u + d))) (fun p q1 q2 => by
        have := (of_decide_eq_true q1).2
        have := (of_decide_eq_true q2).1
        have := Nat.two_pow_pos p.2
        omega) l
      generalize (l.filter (fun p : Nat × Nat => decide (x ≤ p.1 ∧ p.1 + 2 ^ p.2 ≤ x + 2 ^ (u + d)))).length = n1 at i1 i3
      generalize (l.filter (fun p : Nat × Nat => decide (x + 2 ^ (u + d) ≤ p.1 ∧ p.1 + 2 ^ p.2 ≤ x + 2 ^ (u + d) + 2 ^ (u + d)))).length = n2 at i2 i3
      by_cases hz : 1 ≤ n1 + n2
      · have a1 := pthS_two n1 n2 hz d
        have a2 := pthS_mono _ _ i3 (d + 1)
        omega
      · have b1 : n1 = 0 := by omega
        have b2 : n2 = 0 := by omega
        subst b1; subst b2
        have a0 : ∀ d, pthS d 0 = 0 := by
          intro d
          induction d with
          | zero => rfl
          | succ d ih => simp [pthS, ih]
        have a1 := pthS_two 0 1 (by omega) d
        have a2 := pthS_mono 1 l.length hl1 (d + 1)
        have := a0 d
        rw [Nat.zero_add] at a1
        omega
theorem pthS_3000 : pthS 128 3000 ≤ 1048575 := by decide +kernel
theorem pthS_9000 : pthS 128 9000 ≤ 1048575 := by decide +kernel
end Go.Proofs.YtonagfmkplbooaaGreatDoor
