/-
  Part 25 of the proof: 5 texts, one behind the other.
-/
import Derived.Test.YtonagfmkplbooaaGreatDoorPart8
import Derived.Test.YtonagfmkplbooaaGreatDoorPart15
import Derived.Test.YtonagfmkplbooaaGreatDoorPart17
import Derived.Test.YtonagfmkplbooaaGreatDoorPart16
import Derived.Test.YtonagfmkplbooaaGreatDoorPart23
import Derived.Test.YtonagfmkplbooaaGreatDoorPart21
import Derived.Test.YtonagfmkplbooaaGreatDoorPart20
import Derived.Test.YtonagfmkplbooaaGreatDoorPart24
import Derived.Test.YtonagfmkplbooaaGreatDoorPart11
/-
  What the call of turnpikeref6's joined does.
-/
namespace Go.Proofs.YtonagfmkplbooaaGreatDoor
open Go.RowKit
set_option linter.unusedSimpArgs false
set_option linter.unusedVariables false

theorem newsAtG {W : World} {N : Nat} {x y : BitVec 128} {h : Int} (k : AtG W N x y h) : ∀ j u, [Value.int .u64 (hI x), .int .u64 (lI x), .int .u64 (hI y), .int .u64 (lI y), .int .i64 h][j]? = some u → W.cell? ((⟨N, 0, none⟩ : Addr).add j) = some u := by
  intro j u hj
  obtain ⟨k0, k1, k2, k3, k4, -⟩ := k
  match j, hj with
  | 0, hj => simp at hj; subst hj; rw [addA]; exact k0
  | 1, hj => simp at hj; subst hj; rw [addA]; exact k1
  | 2, hj => simp at hj; subst hj; rw [addA]; exact k2
  | 3, hj => simp at hj; subst hj; rw [addA]; exact k3
  | 4, hj => simp at hj; subst hj; rw [addA]; exact k4
/-- What is known between two rounds. -/
structure JoI (w : World) (L0 : Nat) (la : BitVec 128) (lv : Value) (st : List Sg) (W : World) : Prop where
  own : W.ownsRow (L0 + 1) 47 5 lv st.length (rowG st.reverse)
  la : At W L0 la
  bel : Below w.heap.size w W
  l0 : w.heap.size ≤ L0
theorem JoI.below {w : World} {L0 : Nat} {la : BitVec 128} {lv : Value} {st : List Sg} {W W' : World} (k : JoI w L0 la lv st W) (hb : Below W.heap.size W W') : JoI w L0 la lv st W' := ⟨own_below hb k.own, k.la.below hb, keepb hb k.bel, k.l0⟩
theorem JoI.app {w : World} {L0 : Nat} {la : BitVec 128} {lv : Value} {st : List Sg} {W w4 : World} (k : JoI w L0 la lv st W) {n : Nat} (hn : st.length = n) (ex : BitVec 128) (eh : Int) (g cap : Nat)
    (hown : w4.ownsRow (L0 + 1) 47 5 (.slice (some ⟨g, 0, none⟩) (n + 1) cap) (n + 1) (rowG st.reverse ++ [.int .u64 (hI ex), .int .u64 (lI ex), .int .u64 (hI la), .int .u64 (lI la), .int .i64 eh])) (hg : W.grownBy w4 lv.ownBlock) :
    JoI w L0 la (.slice (some ⟨g, 0, none⟩) (n + 1) cap) (((ex, la), eh) :: st) w4 := by
  refine ⟨?_, k.la.heap (hg.block _ k.la.2.2.2.2 (fun e => ?_)) hg.size, k.bel.grown hg k.bel.size (fun z e => by have := (k.own.lt z e).1; have := k.l0; omega), k.l0⟩
  · rw [List.length_cons, hn, List.reverse_cons, rowG_one]
    exact hown
  · have := (k.own.lt _ e.symm).1
    omega
theorem JoI.set {w : World} {L0 : Nat} {la : BitVec 128} {st : List Sg} {ax ay : BitVec 128} {ah : Int} {g cap n : Nat} {W : World} (k : JoI w L0 la (.slice (some ⟨g, 0, none⟩) (n + 1) cap) (((ax, ay), ah) :: st) W) (hn : st.length = n) (y : BitVec 128) :
    JoI w L0 la (.slice (some ⟨g, 0, none⟩) (n + 1) cap) (((ax, y), ah) :: st) ((W.setCell ⟨g, n * 5 + 2, none⟩ (.int .u64 (hI y))).setCell ⟨g, n * 5 + 3, none⟩ (.int .u64 (lI y))) := by
  have h0 := k.own
  rw [List.length_cons, hn, List.reverse_cons] at h0
  obtain ⟨h1, g1⟩ := h0.stored (n * 5 + 2) (.int .u64 (hI y))
  obtain ⟨h2, g2⟩ := h1.stored (n * 5 + 3) (.int .u64 (lI y))
  have hgl := (h0.lt g rfl).1
  have hg : w.heap.size ≤ g := by have := k.l0; omega
  refine ⟨?_, k.la.heap (by rw [hSet _ (by omega), hSet _ (by omega)]) (by simp), (k.bel.setCell (p := ⟨g, n * 5 + 2, none⟩) hg _).setCell (p := ⟨g, n * 5 + 3, none⟩) hg _, k.l0⟩
  rw [List.length_cons, hn, List.reverse_cons, rowG_one]
  rw [rowG_one, setG (rowG st.reverse) n (by rw [rowG_len, List.length_reverse, hn])] at h2
  exact h2
theorem jn_drop (F : Int) (st : List Sg) (Z : List (BitVec 128 × Int)) (k : Nat) (hk : k < Z.length) : jn F st (Z.drop k) = jn F st (Z[k] :: Z.drop (k + 1)) := by rw [List.drop_eq_getElem_cons hk]
set_option maxRecDepth 20000 in
set_option maxHeartbeats 16000000 in
theorem rjoined_any (F : Int) (ga ca gh ch : Nat) (Z : List (BitVec 128 × Int)) (w : World) (hA : ∀ (k : Nat) (h : k < Z.length), w.cell? ⟨ga, k * 2, none⟩ = some (.int .u64 (hI Z[k].1)) ∧ w.cell? ⟨ga, k * 2 + 1, none⟩ = some (.int .u64 (lI Z[k].1))) (hH : ∀ (k : Nat) (h : k < Z.length), w.cell? ⟨gh, k, none⟩ = some (.int .i64 Z[k].2)) (hl : Z.length ≤ 100000000) :
    Calls Tryz.prog 30 #[.int .i64 F, .slice (some ⟨ga, 0, none⟩) Z.length ca, .slice (some ⟨gh, 0, none⟩) Z.length ch] w fun e w' => ∃ v', e = .returned v' ∧ w'.ownsRow w.heap.size 47 5 v' (jn F [] Z).length (rowG (jn F [] Z).reverse) ∧ Below w.heap.size w w' := by
  obtain ⟨i0, hi, hz0, hz1, hz2⟩ := info_parts Tryz.infoG
  have HA := hidR hA
  have HH := hidR hH
  have KL := fun w => rlast_any F w
  have HJN : Hid (∀ (st : List Sg) (s : Sg) (e : BitVec 128 × Int) (l : List (BitVec 128 × Int)), (jn F [] (e :: l) = jn F [((e.1, lastV F), e.2)] l) ∧ (s.2 = e.2 → jn F (s :: st) (e :: l) = jn F (s :: st) l) ∧ (¬ s.2 = e.2 → jn F (s :: st) (e :: l) = jn F (((e.1, lastV F), e.2) :: ((s.1.1, prevV F e.1), s.2) :: st) l)) := hidR (fun st s e l => ⟨rfl, fun h => by rw [jn, if_pos h], fun h => by rw [jn, if_neg h]⟩)
  obtain ⟨jz, hjz⟩ : ∃ jz, jz = jn F [] Z := ⟨_, rfl⟩
  rw [← hjz]
  have HJZ := hidR hjz
  clear hA hH hjz
  revert KL HJN
  generalize lastE F = le
  generalize lastV F = la
  intro KL HJN
  go_enter Tryz.func30, Tryz.ntmps30
  go_wp2_with fail
  refine (KL _).mono ?_
  rintro e w1 ⟨rfl, hb⟩
  have HI0 : Hid (JoI w w1.heap.size la (.slice none 0 0) [] (w1.alloc (.cells #[.int .u64 (hI la), .int .u64 (lI la)] 27))) := hidR ⟨World.ownsRow_nil _ _ _ _, at_new w1 w1.heap.size la 27 rfl, keepb (bl1 w1 _) hb, hb.size⟩
  clear KL hb
  go_wp2_with fail
  generalize w1.heap.size = L0 at *
  go_loopw [9, 10] (fun lv i wr => ∃ (k : Nat) (lv' : Value) (st : List Sg), k ≤ Z.length ∧ i = .int .i64 k ∧ lv' = lv ∧ Hid (jn F st (Z.drop k) = jz ∧ st.length ≤ k) ∧ Hid (JoI w L0 la lv' st wr)) (fun _ i _ => Z.length - (intOf i).toNat)
  case atStart => exact ⟨0, _, [], by omega, rfl, rfl, hidR ⟨HJZ.out.symm, by simp⟩, HI0⟩
  case round =>
    clear HI0 HJZ
    obtain ⟨k, lv, st, hk, rfl, rfl, HX, HJ⟩ := hrel
    by_cases hlt : (k : Int) < (Z.length : Int)
    · have hks : k < Z.length := by omega
      have hkw : IntKind.i64.wrap ((k : Int) + 1) = (k : Int) + 1 := by rw [IntKind.wrap_i64]; omega
      have HY : Hid (∀ W, Below w.heap.size w W → (W.cell? ⟨ga, k * 2, none⟩ = some (.int .u64 (hI Z[k].1)) ∧ W.cell? ⟨ga, k * 2 + 1, none⟩ = some (.int .u64 (lI Z[k].1))) ∧ W.cell? ⟨gh, k, none⟩ = some (.int .i64 Z[k].2)) := hidR (fun W hb => ⟨⟨keepc hb (HA.out k hks).1, keepc hb (HA.out k hks).2⟩, keepc hb (HH.out k hks)⟩)
      have HD := hidR (jn_drop F st Z k hks)
      have HE : Hid (∀ s st, (jn F [] (Z[k] :: Z.drop (k + 1)) = jn F [((Z[k].1, la), Z[k].2)] (Z.drop (k + 1))) ∧ (s.2 = Z[k].2 → jn F (s :: st) (Z[k] :: Z.drop (k + 1)) = jn F (s :: st) (Z.drop (k + 1))) ∧ (¬ s.2 = Z[k].2 → jn F (s :: st) (Z[k] :: Z.drop (k + 1)) = jn F (((Z[k].1, la), Z[k].2) :: ((s.1.1, prevV F Z[k].1), s.2) :: st) (Z.drop (k + 1)))) := hidR (fun s st => HJN.out st s Z[k] (Z.drop (k + 1)))
      have KP := fun w => rprev_any F Z[k].1 w
      revert HY HD HE KP
      generalize prevV F Z[k].1 = pv
      generalize prevB F Z[k].1 = pb
      generalize Z[k] = E0
      obtain ⟨ex, eh⟩ := E0
      dsimp only
      intro HY HD HE KP
      obtain ⟨⟨x0, x1⟩, x2⟩ := HY.out wr HJ.out.bel
      cases st with
      | nil =>
        have HX2 : Hid (jn F [((ex, la), eh)] (Z.drop (k + 1)) = jz ∧ [((ex, la), eh)].length ≤ k + 1) := hidR ⟨by rw [← HX.out.1, HD.out, (HE.out ((0, 0), 0) []).1], by simp⟩
        clear HX HD HE KP HJN
        obtain ⟨ae, ce, rfl⟩ := own_form HJ.out.own
        rw [List.length_nil]
        rw [List.length_nil] at HJ
        go_wp2_with fail
        go_quiet (fail)
        have HJ7 := hidR (HJ.out.below (below_drewN (Below.refl _ _) nq))
        clear HJ x0 x1 x2
        have HJ := HJ7
        clear HJ7
        generalize wr.drewN nq = W7 at HJ ⊢
        obtain ⟨st2, hst2⟩ : ∃ st2 : List Sg, st2 = [] := ⟨_, rfl⟩
        rw [← hst2] at HJ HX2
        have HN : Hid (st2.length = 0) := hidR (by rw [hst2]; rfl)
        go_wp2_with fail
        clear hst2
        refine ap_region 13 11 12 (alOk (qpOk 13 11 (by decide) (fun N => by kernel_rfl) (by kernel_rfl) (by kernel_rfl) (by kernel_rfl) (by kernel_rfl)) (by decide) rfl rfl (by kernel_rfl)) (alOk (qpOk 13 12 (by decide) (fun N => by kernel_rfl) (by kernel_rfl) (by kernel_rfl) (by kernel_rfl) (by kernel_rfl)) (by decide) rfl rfl (by kernel_rfl)) (by decide) (by kernel_rfl) (D := fun W => JoI w L0 la (.slice ae 0 ce) st2 W) (C1 := fun N W => JoI w L0 la (.slice ae 0 ce) st2 W ∧ AtG W N ex la eh) (C2 := fun N M W => JoI w L0 la (valT (0 + 1) M) (((ex, la), eh) :: st2) W) [some 57, some 58, some 59, some 60, some 61, some 62, some 63, some 64, some 65, some 66, some 67, some 68, some 69] (fun N M => [.slice ae 0 ce, .slice (some ⟨ga, 0, none⟩) Z.length ca, .int .i64 (k : Int), .pointer (some ⟨ga, k * 2, none⟩), .agg #[.int .u64 (hI ex), .int .u64 (lI ex)], .agg #[.int .u64 (hI la), .int .u64 (lI la)], .slice (some ⟨gh, 0, none⟩) Z.length ch, .int .i64 (k : Int), .pointer (some ⟨gh, k, none⟩), .int .i64 eh, .agg #[.int .u64 (hI ex), .int .u64 (lI ex), .int .u64 (hI la), .int .u64 (lI la), .int .i64 eh], .slice (some ⟨N, 0, none⟩) 1 1, valT (0 + 1) M]) (fun N => .slice (some ⟨N, 0, none⟩) 1 1) (fun M => valT (0 + 1) M) 68 69 [67] [57, 68] (by kernel_rfl) (fun N M => by kernel_rfl) rfl rfl ?hA4 ?hA41 ?hA42 (by kernel_rfl) (by kernel_rfl) (by decide) (by decide) ?h14 ?h24 (HJ.out.below (below_drewN (Below.refl _ _) 1)) ?walk4 ?fin4
        case hA4 => intro N M; simp only [putAll, Act.put, List.setIfInBounds_toArray, List.set_cons_zero, List.set_cons_succ]; try rfl
        case hA41 => intro N M; simp only [putAll, Act.put, List.setIfInBounds_toArray, List.set_cons_zero, List.set_cons_succ]; try rfl
        case hA42 => intro N M; simp only [putAll, Act.put, List.setIfInBounds_toArray, List.set_cons_zero, List.set_cons_succ]; try rfl
        case h14 =>
          intro W a' hC hr K Q' hK
          have e67 : a'.tmps[67]? = some (.agg #[.int .u64 (hI ex), .int .u64 (lI ex), .int .u64 (hI la), .int .u64 (lI la), .int .i64 eh]) := (hr 67 (by simp)).trans (by simp only [putAll, Act.put, List.setIfInBounds_toArray, List.set_cons_zero, List.set_cons_succ]; rfl)
          have hK' := hK W.heap.size (W.alloc (.cells #[.int .u64 (hI ex), .int .u64 (lI ex), .int .u64 (hI la), .int .u64 (lI la), .int .i64 eh] 47)) ⟨hC.below (bl1 W _), atg_new W W.heap.size ex la eh 47 rfl⟩
          clear hr
          unfold Oper.wp
          simp [execOp, e67, go_sem, Oper.upon]
          exact hK'
        case h24 =>
          intro N W a' hC hr K Q' hK
          have e57 : a'.tmps[57]? = some (.slice ae 0 ce) := (hr 57 (by simp)).trans (by simp only [putAll, Act.put, List.setIfInBounds_toArray, List.set_cons_zero, List.set_cons_succ]; rfl)
          have e68 : a'.tmps[68]? = some (.slice (some ⟨N, 0, none⟩) 1 1) := (hr 68 (by simp)).trans (by simp only [putAll, Act.put, List.setIfInBounds_toArray, List.set_cons_zero, List.set_cons_succ]; rfl)
          have hownN := hC.1.own
          rw [HN.out] at hownN
          refine wp_append_lies W (.tmp 57) (.tmp 68) 41 rfl (L0 + 1) 47 i0 (.agg #[.int .u64 0, .int .u64 0, .int .u64 0, .int .u64 0, .int .i64 0]) 5 40 Tryz.underlying41 hi hz0 hz1 hz2 rfl (by decide) (.slice ae 0 ce) 0 (rowG st2.reverse) (by simp [Act.eval, e57]) hownN ⟨N, 0, none⟩ 1 1 [.int .u64 (hI ex), .int .u64 (lI ex), .int .u64 (hI la), .int .u64 (lI la), .int .i64 eh] (by simp [Act.eval, e68]) rfl (newsAtG hC.2) (fiveG _ _ _ _ _) (by decide) (by unfold maxLen; omega) (by omega) (by have := hC.1.la.2.2.2.2; omega) _ rfl ?_
          intro g4 cap4 w4 hown4 hgrow hat hlt4
          obtain ⟨M, hM⟩ := decN_ex g4 cap4
          have eM : (.slice (some ⟨g4, 0, none⟩) (0 + 1) cap4 : Value) = valT (0 + 1) M := by rw [valT, hM]
          have q4 := hC.1.app HN.out ex eh g4 cap4 hown4 hgrow
          rw [eM] at q4
          rw [eM]
          exact hK M w4 q4
        case walk4 =>
          intro N M X hX
          have hXD : ∀ W, X W → (W.cell? ⟨L0, 0, none⟩ = some (.int .u64 (hI la)) ∧ W.cell? ⟨L0, 1, none⟩ = some (.int .u64 (lI la))) ∧ (W.cell? ⟨ga, k * 2, none⟩ = some (.int .u64 (hI ex)) ∧ W.cell? ⟨ga, k * 2 + 1, none⟩ = some (.int .u64 (lI ex))) ∧ W.cell? ⟨gh, k, none⟩ = some (.int .i64 eh) := by
            rcases hX with rfl | rfl | rfl
            · exact fun W h => ⟨⟨h.la.1, h.la.2.1⟩, HY.out W h.bel⟩
            · exact fun W h => ⟨⟨h.1.la.1, h.1.la.2.1⟩, HY.out W h.1.bel⟩
            · exact fun W h => ⟨⟨h.la.1, h.la.2.1⟩, HY.out W h.bel⟩
          clear hX HJ HY
          dsimp only [rep, List.take, List.modify, List.modifyTailIdx, List.modifyTailIdx.go, List.modifyHead]
          refine q_run (v := .slice ae 0 ce) (by rfl) ?_ ?_
          · (intro w1 hC; obtain ⟨⟨a0, a1⟩, ⟨r0, r1⟩, r2⟩ := hXD w1 hC; clear hC; go_simp; first | done | (simp; done) | (simp [*]; done) | omega | (simp; omega) | (rw [IntKind.wrap_i64]; omega) | (intro hx; omega) | rfl)
          simp only [Act.put, List.setIfInBounds_toArray, List.set_cons_zero, List.set_cons_succ]
          refine q_run (v := .slice (some ⟨ga, 0, none⟩) Z.length ca) (by rfl) ?_ ?_
          · (intro w1 hC; obtain ⟨⟨a0, a1⟩, ⟨r0, r1⟩, r2⟩ := hXD w1 hC; clear hC; go_simp; first | done | (simp; done) | (simp [*]; done) | omega | (simp; omega) | (rw [IntKind.wrap_i64]; omega) | (intro hx; omega) | rfl)
          simp only [Act.put, List.setIfInBounds_toArray, List.set_cons_zero, List.set_cons_succ]
          refine q_run (v := .int .i64 (k : Int)) (by rfl) ?_ ?_
          · (intro w1 hC; obtain ⟨⟨a0, a1⟩, ⟨r0, r1⟩, r2⟩ := hXD w1 hC; clear hC; go_simp; first | done | (simp; done) | (simp [*]; done) | omega | (simp; omega) | (rw [IntKind.wrap_i64]; omega) | (intro hx; omega) | rfl)
          simp only [Act.put, List.setIfInBounds_toArray, List.set_cons_zero, List.set_cons_succ]
          refine q_run (v := .pointer (some ⟨ga, k * 2, none⟩)) (by rfl) ?_ ?_
          · (intro w1 hC; obtain ⟨⟨a0, a1⟩, ⟨r0, r1⟩, r2⟩ := hXD w1 hC; clear hC; go_simp; first | done | (simp; done) | (simp [*]; done) | omega | (simp; omega) | (rw [IntKind.wrap_i64]; omega) | (intro hx; omega) | rfl)
          simp only [Act.put, List.setIfInBounds_toArray, List.set_cons_zero, List.set_cons_succ]
          refine q_run (v := .agg #[.int .u64 (hI ex), .int .u64 (lI ex)]) (by rfl) ?_ ?_
          · (intro w1 hC; obtain ⟨⟨a0, a1⟩, ⟨r0, r1⟩, r2⟩ := hXD w1 hC; clear hC; go_simp; first | done | (simp; done) | (simp [*]; done) | omega | (simp; omega) | (rw [IntKind.wrap_i64]; omega) | (intro hx; omega) | rfl)
          simp only [Act.put, List.setIfInBounds_toArray, List.set_cons_zero, List.set_cons_succ]
          refine q_run (v := .agg #[.int .u64 (hI la), .int .u64 (lI la)]) (by rfl) ?_ ?_
          · (intro w1 hC; obtain ⟨⟨a0, a1⟩, ⟨r0, r1⟩, r2⟩ := hXD w1 hC; clear hC; go_simp; first | done | (simp; done) | (simp [*]; done) | omega | (simp; omega) | (rw [IntKind.wrap_i64]; omega) | (intro hx; omega) | rfl)
          simp only [Act.put, List.setIfInBounds_toArray, List.set_cons_zero, List.set_cons_succ]
          refine q_run (v := .slice (some ⟨gh, 0, none⟩) Z.length ch) (by rfl) ?_ ?_
          · (intro w1 hC; obtain ⟨⟨a0, a1⟩, ⟨r0, r1⟩, r2⟩ := hXD w1 hC; clear hC; go_simp; first | done | (simp; done) | (simp [*]; done) | omega | (simp; omega) | (rw [IntKind.wrap_i64]; omega) | (intro hx; omega) | rfl)
          simp only [Act.put, List.setIfInBounds_toArray, List.set_cons_zero, List.set_cons_succ]
          refine q_run (v := .int .i64 (k : Int)) (by rfl) ?_ ?_
          · (intro w1 hC; obtain ⟨⟨a0, a1⟩, ⟨r0, r1⟩, r2⟩ := hXD w1 hC; clear hC; go_simp; first | done | (simp; done) | (simp [*]; done) | omega | (simp; omega) | (rw [IntKind.wrap_i64]; omega) | (intro hx; omega) | rfl)
          simp only [Act.put, List.setIfInBounds_toArray, List.set_cons_zero, List.set_cons_succ]
          refine q_run (v := .pointer (some ⟨gh, k, none⟩)) (by rfl) ?_ ?_
          · (intro w1 hC; obtain ⟨⟨a0, a1⟩, ⟨r0, r1⟩, r2⟩ := hXD w1 hC; clear hC; go_simp; first | done | (simp; done) | (simp [*]; done) | omega | (simp; omega) | (rw [IntKind.wrap_i64]; omega) | (intro hx; omega) | rfl)
          simp only [Act.put, List.setIfInBounds_toArray, List.set_cons_zero, List.set_cons_succ]
          refine q_run (v := .int .i64 eh) (by rfl) ?_ ?_
          · (intro w1 hC; obtain ⟨⟨a0, a1⟩, ⟨r0, r1⟩, r2⟩ := hXD w1 hC; clear hC; go_simp; first | done | (simp; done) | (simp [*]; done) | omega | (simp; omega) | (rw [IntKind.wrap_i64]; omega) | (intro hx; omega) | rfl)
          simp only [Act.put, List.setIfInBounds_toArray, List.set_cons_zero, List.set_cons_succ]
          refine q_run (v := .agg #[.int .u64 (hI ex), .int .u64 (lI ex), .int .u64 (hI la), .int .u64 (lI la), .int .i64 eh]) (by rfl) ?_ ?_
          · (intro w1 hC; obtain ⟨⟨a0, a1⟩, ⟨r0, r1⟩, r2⟩ := hXD w1 hC; clear hC; go_simp; first | done | (simp; done) | (simp [*]; done) | omega | (simp; omega) | (rw [IntKind.wrap_i64]; omega) | (intro hx; omega) | rfl)
          simp only [Act.put, List.setIfInBounds_toArray, List.set_cons_zero, List.set_cons_succ]
          refine q_run (v := .slice (some ⟨N, 0, none⟩) 1 1) (by rfl) ?_ ?_
          · (intro w1 hC; obtain ⟨⟨a0, a1⟩, ⟨r0, r1⟩, r2⟩ := hXD w1 hC; clear hC; go_simp; first | done | (simp; done) | (simp [*]; done) | omega | (simp; omega) | (rw [IntKind.wrap_i64]; omega) | (intro hx; omega) | rfl)
          simp only [Act.put, List.setIfInBounds_toArray, List.set_cons_zero, List.set_cons_succ]
          refine q_run (v := valT (0 + 1) M) (by rfl) ?_ ?_
          · (intro w1 hC; obtain ⟨⟨a0, a1⟩, ⟨r0, r1⟩, r2⟩ := hXD w1 hC; clear hC; go_simp; first | done | (simp; done) | (simp [*]; done) | omega | (simp; omega) | (rw [IntKind.wrap_i64]; omega) | (intro hx; omega) | rfl)
          simp only [Act.put, List.setIfInBounds_toArray, List.set_cons_zero, List.set_cons_succ]
          refine wpQuiet_nil ?_
          simp only [putAll, Act.put, List.setIfInBounds_toArray, List.set_cons_zero, List.set_cons_succ]
        case fin4 =>
          intro N M W hC
          simp only [putAll, Act.put, List.setIfInBounds_toArray, List.set_cons_zero, List.set_cons_succ]
          dsimp only [List.drop]
          obtain ⟨g5, c5, hd⟩ : ∃ g5 c5, valT (0 + 1) M = .slice (some ⟨g5, 0, none⟩) (0 + 1) c5 := ⟨_, _, rfl⟩
          rw [hd] at hC
          rw [hd]
          have HS := hidR hC
          clear hd hC HJ HY
          go_wp2
          go_roundw
          case rel => exact ⟨k + 1, _, ((ex, la), eh) :: st2, by omega, by go_num, rfl, HX2, HS⟩
          case measure => simp [intOf]; omega
      | cons s st =>
        obtain ⟨⟨ax, ay⟩, ah⟩ := s
        obtain ⟨n, HN1⟩ : ∃ n, Hid (st.length = n) := ⟨_, rfl⟩
        have hlen : (((ax, ay), ah) :: st).length = n + 1 := by have := HN1.out; simp [this]
        have hnk : n + 1 ≤ 100000000 := by have := HX.out.2; omega
        have hown := HJ.out.own
        obtain ⟨g, cap, rfl, -, -⟩ := hown.form (by simp)
        rw [hlen] at hown HJ
        rw [hlen]
        have hrev : (((ax, ay), ah) :: st).reverse = st.reverse ++ [((ax, ay), ah)] := by simp
        rw [hrev] at hown
        obtain ⟨c0, c1, c2, c3, c4⟩ := ownG_last hown (by rw [List.length_reverse]; exact HN1.out)
        have f2 := hown.frozenAt (n * 5 + 2)
        have f3 := hown.frozenAt (n * 5 + 3)
        have m1 : IntKind.i64.wrap ((n : Int) + 1 - 1) = (n : Int) := by rw [IntKind.wrap_i64]; omega
        have i1 : (0 : Int) < (n : Int) + 1 := by omega
        have i2 : (n : Int) < (n : Int) + 1 := by omega
        have i3 : (0 : Int) ≤ (n : Int) := by omega
        clear hrev hown
        by_cases hh : ah = eh
        · have d1 : (ah == eh) = true := by simpa using hh
          have HX2 : Hid (jn F (((ax, ay), ah) :: st) (Z.drop (k + 1)) = jz ∧ (((ax, ay), ah) :: st).length ≤ k + 1) := hidR ⟨by rw [← HX.out.1, HD.out, ((HE.out ((ax, ay), ah) st).2.1 hh)], by have := HX.out.2; omega⟩
          clear HX HD HE KP HJN hh hlen
          go_wp2_with fail
          go_quiet (fail)
          have HJ7 := hidR (HJ.out.below (below_drewN (Below.refl _ _) nq))
          clear HJ x0 x1 x2 c0 c1 c2 c3 c4 f2 f3
          go_wp2
          go_roundw
          case rel => exact ⟨k + 1, _, ((ax, ay), ah) :: st, by omega, by go_num, rfl, HX2, HJ7⟩
          case measure => simp [intOf]; omega
        · have d1 : (ah == eh) = false := by simpa using hh
          have HX2 : Hid (jn F (((ex, la), eh) :: ((ax, pv), ah) :: st) (Z.drop (k + 1)) = jz ∧ (((ex, la), eh) :: ((ax, pv), ah) :: st).length ≤ k + 1) := hidR ⟨by rw [← HX.out.1, HD.out, ((HE.out ((ax, ay), ah) st).2.2 hh)], by have := HX.out.2; simp at this ⊢; omega⟩
          clear HX HD HE HJN hh hlen
          go_wp2_with fail
          go_quiet (fail)
          have HJ7 := hidR (HJ.out.below (below_drewN (Below.refl _ _) nq))
          obtain ⟨⟨x0, x1⟩, x2⟩ := HY.out _ HJ7.out.bel
          clear HJ c0 c1 c2 c3 c4 f2 f3
          generalize wr.drewN nq = W7 at *
          go_wp2_with fail
          refine (KP _).mono ?_
          rintro e w8 ⟨rfl, hb8⟩
          have HJ8 := hidR (HJ7.out.below hb8)
          have hown := HJ8.out.own
          rw [List.length_cons, HN1.out, List.reverse_cons] at hown
          obtain ⟨c0, c1, c2, c3, c4⟩ := ownG_last hown (by rw [List.length_reverse]; exact HN1.out)
          have f2 := hown.frozenAt (n * 5 + 2)
          have f3 := hown.frozenAt (n * 5 + 3)
          have HJ := hidR (HJ8.out.set HN1.out pv)
          have HN : Hid ((((ax, pv), ah) :: st).length = n + 1) := hidR (by have := HN1.out; simp [this])
          clear KP hb8 HJ7 HJ8 hown x0 x1 x2 HN1
          go_wp2_with fail
          revert HJ HN HX2
          generalize ((ax, pv), ah) :: st = st2
          generalize hW9 : (w8.setCell ⟨g, n * 5 + 2, none⟩ (.int .u64 (hI pv))).setCell ⟨g, n * 5 + 3, none⟩ (.int .u64 (lI pv)) = W9
          generalize (some ⟨g, 0, none⟩ : Option Addr) = ae
          intro HX2 HJ HN
          clear c0 c1 c2 c3 c4 f2 f3 m1 i1 i2 i3 hW9
          refine ap_region 13 11 12 (alOk (qpOk 13 11 (by decide) (fun N => by kernel_rfl) (by kernel_rfl) (by kernel_rfl) (by kernel_rfl) (by kernel_rfl)) (by decide) rfl rfl (by kernel_rfl)) (alOk (qpOk 13 12 (by decide) (fun N => by kernel_rfl) (by kernel_rfl) (by kernel_rfl) (by kernel_rfl) (by kernel_rfl)) (by decide) rfl rfl (by kernel_rfl)) (by decide) (by kernel_rfl) (D := fun W => JoI w L0 la (.slice ae (n + 1) cap) st2 W) (C1 := fun N W => JoI w L0 la (.slice ae (n + 1) cap) st2 W ∧ AtG W N ex la eh) (C2 := fun N M W => JoI w L0 la (valT (n + 1 + 1) M) (((ex, la), eh) :: st2) W) [some 57, some 58, some 59, some 60, some 61, some 62, some 63, some 64, some 65, some 66, some 67, some 68, some 69] (fun N M => [.slice ae (n + 1) cap, .slice (some ⟨ga, 0, none⟩) Z.length ca, .int .i64 (k : Int), .pointer (some ⟨ga, k * 2, none⟩), .agg #[.int .u64 (hI ex), .int .u64 (lI ex)], .agg #[.int .u64 (hI la), .int .u64 (lI la)], .slice (some ⟨gh, 0, none⟩) Z.length ch, .int .i64 (k : Int), .pointer (some ⟨gh, k, none⟩), .int .i64 eh, .agg #[.int .u64 (hI ex), .int .u64 (lI ex), .int .u64 (hI la), .int .u64 (lI la), .int .i64 eh], .slice (some ⟨N, 0, none⟩) 1 1, valT (n + 1 + 1) M]) (fun N => .slice (some ⟨N, 0, none⟩) 1 1) (fun M => valT (n + 1 + 1) M) 68 69 [67] [57, 68] (by kernel_rfl) (fun N M => by kernel_rfl) rfl rfl ?hA4 ?hA41 ?hA42 (by kernel_rfl) (by kernel_rfl) (by decide) (by decide) ?h14 ?h24 (HJ.out.below (below_drewN (Below.refl _ _) 1)) ?walk4 ?fin4
          case hA4 => intro N M; simp only [putAll, Act.put, List.setIfInBounds_toArray, List.set_cons_zero, List.set_cons_succ]; try rfl
          case hA41 => intro N M; simp only [putAll, Act.put, List.setIfInBounds_toArray, List.set_cons_zero, List.set_cons_succ]; try rfl
          case hA42 => intro N M; simp only [putAll, Act.put, List.setIfInBounds_toArray, List.set_cons_zero, List.set_cons_succ]; try rfl
          case h14 =>
            intro W a' hC hr K Q' hK
            have e67 : a'.tmps[67]? = some (.agg #[.int .u64 (hI ex), .int .u64 (lI ex), .int .u64 (hI la), .int .u64 (lI la), .int .i64 eh]) := (hr 67 (by simp)).trans (by simp only [putAll, Act.put, List.setIfInBounds_toArray, List.set_cons_zero, List.set_cons_succ]; rfl)
            have hK' := hK W.heap.size (W.alloc (.cells #[.int .u64 (hI ex), .int .u64 (lI ex), .int .u64 (hI la), .int .u64 (lI la), .int .i64 eh] 47)) ⟨hC.below (bl1 W _), atg_new W W.heap.size ex la eh 47 rfl⟩
            clear hr
            unfold Oper.wp
            simp [execOp, e67, go_sem, Oper.upon]
            exact hK'
          case h24 =>
            intro N W a' hC hr K Q' hK
            have e57 : a'.tmps[57]? = some (.slice ae (n + 1) cap) := (hr 57 (by simp)).trans (by simp only [putAll, Act.put, List.setIfInBounds_toArray, List.set_cons_zero, List.set_cons_succ]; rfl)
            have e68 : a'.tmps[68]? = some (.slice (some ⟨N, 0, none⟩) 1 1) := (hr 68 (by simp)).trans (by simp only [putAll, Act.put, List.setIfInBounds_toArray, List.set_cons_zero, List.set_cons_succ]; rfl)
            have hownN := hC.1.own
            rw [HN.out] at hownN
            refine wp_append_lies W (.tmp 57) (.tmp 68) 41 rfl (L0 + 1) 47 i0 (.agg #[.int .u64 0, .int .u64 0, .int .u64 0, .int .u64 0, .int .i64 0]) 5 40 Tryz.underlying41 hi hz0 hz1 hz2 rfl (by decide) (.slice ae (n + 1) cap) (n + 1) (rowG st2.reverse) (by simp [Act.eval, e57]) hownN ⟨N, 0, none⟩ 1 1 [.int .u64 (hI ex), .int .u64 (lI ex), .int .u64 (hI la), .int .u64 (lI la), .int .i64 eh] (by simp [Act.eval, e68]) rfl (newsAtG hC.2) (fiveG _ _ _ _ _) (by decide) (by unfold maxLen; omega) (by omega) (by have := hC.1.la.2.2.2.2; omega) _ rfl ?_
            intro g4 cap4 w4 hown4 hgrow hat hlt4
            obtain ⟨M, hM⟩ := decN_ex g4 cap4
            have eM : (.slice (some ⟨g4, 0, none⟩) (n + 1 + 1) cap4 : Value) = valT (n + 1 + 1) M := by rw [valT, hM]
            have q4 := hC.1.app HN.out ex eh g4 cap4 hown4 hgrow
            rw [eM] at q4
            rw [eM]
            exact hK M w4 q4
          case walk4 =>
            intro N M X hX
            have hXD : ∀ W, X W → (W.cell? ⟨L0, 0, none⟩ = some (.int .u64 (hI la)) ∧ W.cell? ⟨L0, 1, none⟩ = some (.int .u64 (lI la))) ∧ (W.cell? ⟨ga, k * 2, none⟩ = some (.int .u64 (hI ex)) ∧ W.cell? ⟨ga, k * 2 + 1, none⟩ = some (.int .u64 (lI ex))) ∧ W.cell? ⟨gh, k, none⟩ = some (.int .i64 eh) := by
              rcases hX with rfl | rfl | rfl
              · exact fun W h => ⟨⟨h.la.1, h.la.2.1⟩, HY.out W h.bel⟩
              · exact fun W h => ⟨⟨h.1.la.1, h.1.la.2.1⟩, HY.out W h.1.bel⟩
              · exact fun W h => ⟨⟨h.la.1, h.la.2.1⟩, HY.out W h.bel⟩
            clear hX HJ HY
            dsimp only [rep, List.take, List.modify, List.modifyTailIdx, List.modifyTailIdx.go, List.modifyHead]
            refine q_run (v := .slice ae (n + 1) cap) (by rfl) ?_ ?_
            · (intro w1 hC; obtain ⟨⟨a0, a1⟩, ⟨r0, r1⟩, r2⟩ := hXD w1 hC; clear hC; go_simp; first | done | (simp; done) | (simp [*]; done) | omega | (simp; omega) | (rw [IntKind.wrap_i64]; omega) | (intro hx; omega) | rfl)
            simp only [Act.put, List.setIfInBounds_toArray, List.set_cons_zero, List.set_cons_succ]
            refine q_run (v := .slice (some ⟨ga, 0, none⟩) Z.length ca) (by rfl) ?_ ?_
            · (intro w1 hC; obtain ⟨⟨a0, a1⟩, ⟨r0, r1⟩, r2⟩ := hXD w1 hC; clear hC; go_simp; first | done | (simp; done) | (simp [*]; done) | omega | (simp; omega) | (rw [IntKind.wrap_i64]; omega) | (intro hx; omega) | rfl)
            simp only [Act.put, List.setIfInBounds_toArray, List.set_cons_zero, List.set_cons_succ]
            refine q_run (v := .int .i64 (k : Int)) (by rfl) ?_ ?_
            · (intro w1 hC; obtain ⟨⟨a0, a1⟩, ⟨r0, r1⟩, r2⟩ := hXD w1 hC; clear hC; go_simp; first | done | (simp; done) | (simp [*]; done) | omega | (simp; omega) | (rw [IntKind.wrap_i64]; omega) | (intro hx; omega) | rfl)
            simp only [Act.put, List.setIfInBounds_toArray, List.set_cons_zero, List.set_cons_succ]
            refine q_run (v := .pointer (some ⟨ga, k * 2, none⟩)) (by rfl) ?_ ?_
            · (intro w1 hC; obtain ⟨⟨a0, a1⟩, ⟨r0, r1⟩, r2⟩ := hXD w1 hC; clear hC; go_simp; first | done | (simp; done) | (simp [*]; done) | omega | (simp; omega) | (rw [IntKind.wrap_i64]; omega) | (intro hx; omega) | rfl)
            simp only [Act.put, List.setIfInBounds_toArray, List.set_cons_zero, List.set_cons_succ]
            refine q_run (v := .agg #[.int .u64 (hI ex), .int .u64 (lI ex)]) (by rfl) ?_ ?_
            · (intro w1 hC; obtain ⟨⟨a0, a1⟩, ⟨r0, r1⟩, r2⟩ := hXD w1 hC; clear hC; go_simp; first | done | (simp; done) | (simp [*]; done) | omega | (simp; omega) | (rw [IntKind.wrap_i64]; omega) | (intro hx; omega) | rfl)
            simp only [Act.put, List.setIfInBounds_toArray, List.set_cons_zero, List.set_cons_succ]
            refine q_run (v := .agg #[.int .u64 (hI la), .int .u64 (lI la)]) (by rfl) ?_ ?_
            · (intro w1 hC; obtain ⟨⟨a0, a1⟩, ⟨r0, r1⟩, r2⟩ := hXD w1 hC; clear hC; go_simp; first | done | (simp; done) | (simp [*]; done) | omega | (simp; omega) | (rw [IntKind.wrap_i64]; omega) | (intro hx; omega) | rfl)
            simp only [Act.put, List.setIfInBounds_toArray, List.set_cons_zero, List.set_cons_succ]
            refine q_run (v := .slice (some ⟨gh, 0, none⟩) Z.length ch) (by rfl) ?_ ?_
            · (intro w1 hC; obtain ⟨⟨a0, a1⟩, ⟨r0, r1⟩, r2⟩ := hXD w1 hC; clear hC; go_simp; first | done | (simp; done) | (simp [*]; done) | omega | (simp; omega) | (rw [IntKind.wrap_i64]; omega) | (intro hx; omega) | rfl)
            simp only [Act.put, List.setIfInBounds_toArray, List.set_cons_zero, List.set_cons_succ]
            refine q_run (v := .int .i64 (k : Int)) (by rfl) ?_ ?_
            · (intro w1 hC; obtain ⟨⟨a0, a1⟩, ⟨r0, r1⟩, r2⟩ := hXD w1 hC; clear hC; go_simp; first | done | (simp; done) | (simp [*]; done) | omega | (simp; omega) | (rw [IntKind.wrap_i64]; omega) | (intro hx; omega) | rfl)
            simp only [Act.put, List.setIfInBounds_toArray, List.set_cons_zero, List.set_cons_succ]
            refine q_run (v := .pointer (some ⟨gh, k, none⟩)) (by rfl) ?_ ?_
            · (intro w1 hC; obtain ⟨⟨a0, a1⟩, ⟨r0, r1⟩, r2⟩ := hXD w1 hC; clear hC; go_simp; first | done | (simp; done) | (simp [*]; done) | omega | (simp; omega) | (rw [IntKind.wrap_i64]; omega) | (intro hx; omega) | rfl)
            simp only [Act.put, List.setIfInBounds_toArray, List.set_cons_zero, List.set_cons_succ]
            refine q_run (v := .int .i64 eh) (by rfl) ?_ ?_
            · (intro w1 hC; obtain ⟨⟨a0, a1⟩, ⟨r0, r1⟩, r2⟩ := hXD w1 hC; clear hC; go_simp; first | done | (simp; done) | (simp [*]; done) | omega | (simp; omega) | (rw [IntKind.wrap_i64]; omega) | (intro hx; omega) | rfl)
            simp only [Act.put, List.setIfInBounds_toArray, List.set_cons_zero, List.set_cons_succ]
            refine q_run (v := .agg #[.int .u64 (hI ex), .int .u64 (lI ex), .int .u64 (hI la), .int .u64 (lI la), .int .i64 eh]) (by rfl) ?_ ?_
            · (intro w1 hC; obtain ⟨⟨a0, a1⟩, ⟨r0, r1⟩, r2⟩ := hXD w1 hC; clear hC; go_simp; first | done | (simp; done) | (simp [*]; done) | omega | (simp; omega) | (rw [IntKind.wrap_i64]; omega) | (intro hx; omega) | rfl)
            simp only [Act.put, List.setIfInBounds_toArray, List.set_cons_zero, List.set_cons_succ]
            refine q_run (v := .slice (some ⟨N, 0, none⟩) 1 1) (by rfl) ?_ ?_
            · (intro w1 hC; obtain ⟨⟨a0, a1⟩, ⟨r0, r1⟩, r2⟩ := hXD w1 hC; clear hC; go_simp; first | done | (simp; done) | (simp [*]; done) | omega | (simp; omega) | (rw [IntKind.wrap_i64]; omega) | (intro hx; omega) | rfl)
            simp only [Act.put, List.setIfInBounds_toArray, List.set_cons_zero, List.set_cons_succ]
            refine q_run (v := valT (n + 1 + 1) M) (by rfl) ?_ ?_
            · (intro w1 hC; obtain ⟨⟨a0, a1⟩, ⟨r0, r1⟩, r2⟩ := hXD w1 hC; clear hC; go_simp; first | done | (simp; done) | (simp [*]; done) | omega | (simp; omega) | (rw [IntKind.wrap_i64]; omega) | (intro hx; omega) | rfl)
            simp only [Act.put, List.setIfInBounds_toArray, List.set_cons_zero, List.set_cons_succ]
            refine wpQuiet_nil ?_
            simp only [putAll, Act.put, List.setIfInBounds_toArray, List.set_cons_zero, List.set_cons_succ]
          case fin4 =>
            intro N M W hC
            simp only [putAll, Act.put, List.setIfInBounds_toArray, List.set_cons_zero, List.set_cons_succ]
            dsimp only [List.drop]
            obtain ⟨g5, c5, hd⟩ : ∃ g5 c5, valT (n + 1 + 1) M = .slice (some ⟨g5, 0, none⟩) (n + 1 + 1) c5 := ⟨_, _, rfl⟩
            rw [hd] at hC
            rw [hd]
            have HS := hidR hC
            clear hd hC HJ HY
            go_wp2
            go_roundw
            case rel => exact ⟨k + 1, _, ((ex, la), eh) :: st2, by omega, by go_num, rfl, HX2, HS⟩
            case measure => simp [intOf]; omega
    · have hd : ¬ k < Z.length := by omega
      have HE : Hid (jz = st) := hidR (by rw [← HX.out.1, List.drop_eq_nil_of_le (by omega), jn])
      have HR : Hid (wr.ownsRow w.heap.size 47 5 lv st.length (rowG st.reverse) ∧ Below w.heap.size w wr) := hidR ⟨own_wide HJ.out.own (by have := HJ.out.l0; omega), HJ.out.bel⟩
      clear HX HJ
      go_wp2
      go_ret
      rw [HE.out]
      exact ⟨_, rfl, HR.out⟩
end Go.Proofs.YtonagfmkplbooaaGreatDoor
/-
  A table whose neighbours are in order is in order.
-/
namespace Go.Proofs.YtonagfmkplbooaaGreatDoor
open Go.RowKit

theorem ord_adj {l : List Rte} (h : Adj l) : OrdR l := by
  intro a b hb hab
  induction b with
  | zero => omega
  | succ b ih =>
    have h1 := (pcmp_lt _ _ _ _).1 (h b hb)
    rcases Nat.lt_or_eq_of_le (Nat.le_of_lt_succ hab) with q | q
    · have h2 := (pcmp_lt _ _ _ _).1 (ih (by omega) q)
      refine (pcmp_lt _ _ _ _).2 ?_
      omega
    · subst q
      exact h a hb
end Go.Proofs.YtonagfmkplbooaaGreatDoor
/-
  What a table's check says, plainly.
-/
namespace Go.Proofs.YtonagfmkplbooaaGreatDoor
set_option linter.unusedSimpArgs false
set_option linter.unusedVariables false

theorem ord_pair {l : List Rte} (h : OrdR l) : l.Pairwise (fun a b => pcmpZ a.1.1 a.1.2 b.1.1 b.1.2 < 0) := by
  rw [List.pairwise_iff_getElem]
  intro i j hi hj hij
  exact h i j hj hij
/-- What Check's OK says of a table. -/
theorem tab_ok {F : Int} {l : List Rte} (h : TabE F l 0) : fam F = true ∧ l.length ≤ 1048576 ∧ (∀ r ∈ l, Ro F r) ∧ l.Pairwise (fun a b => pcmpZ a.1.1 a.1.2 b.1.1 b.1.2 < 0) := by
  have h0 : rtsE F l = 0 := by
    by_cases h' : rtsE F l = 0
    · exact h'
    · have := h.1 h'; omega
  obtain ⟨hf, h1, h2⟩ := rts_all F l h0
  rcases h.2 h0 with ⟨ha, -⟩ | ⟨-, q⟩
  · exact ⟨hf, h1, fun r hr => rte_ro F r hf (h2 r hr), ord_pair (ord_adj ha)⟩
  · omega
theorem zero_right (F : Int) (hf : fam F = true) : rightE F 0#128 = 0 := by
  rcases fam_ways F hf with rfl | rfl <;> decide +kernel
theorem rt_right (F : Int) (hf : fam F = true) (r : Rte) (h : Ro F r) : rightE F r.1.1 = 0 := by
  exact right_of F _ hf (rt_fam F _ _ h.1)
theorem ro_cells {F : Int} {l : List Rte} (hf : fam F = true) (hL : ∀ r ∈ l, Ro F r) : ∀ r ∈ l, 0 ≤ r.1.2 ∧ r.1.2 ≤ 128 ∧ cutW r.1.1 r.1.2 = r.1.1 := by
  intro r hr
  obtain ⟨⟨h0, h1, h2⟩, -⟩ := hL r hr
  have : F ≤ 128 := by rcases fam_ways F hf with rfl | rfl <;> decide
  exact ⟨h0, by omega, h2⟩
end Go.Proofs.YtonagfmkplbooaaGreatDoor
/-
  What the call of turnpikeref6's Segs does.
-/
namespace Go.Proofs.YtonagfmkplbooaaGreatDoor
open Go.RowKit
set_option linter.unusedSimpArgs false
set_option linter.unusedVariables false

def rowI (l : List Int) : List Value := l.map fun h => .int .i64 h
theorem rowI_one (l : List Int) (h : Int) : rowI (l ++ [h]) = rowI l ++ [.int .i64 h] := by simp [rowI]
theorem newsI {W : World} {N : Nat} {h : Int} (k : W.cell? ⟨N, 0, none⟩ = some (.int .i64 h)) : ∀ j u, [Value.int .i64 h][j]? = some u → W.cell? ((⟨N, 0, none⟩ : Addr).add j) = some u := by
  intro j u hj
  match j, hj with
  | 0, hj => simp at hj; subst hj; rw [addA]; exact k
theorem oneI (h : Int) : ∀ u ∈ [Value.int .i64 h], u.oneCell' = true := by
  intro u hu; simp at hu; rcases hu with rfl; rfl
theorem Tryz.infoI : (Tryz.prog.info? 3).map (fun i => (i.zero, i.size, i.bytes)) = some (some (.int .i64 0), 1, 8) := by kernel_rfl
theorem ownI_cells {W : World} {base n g c : Nat} {l : List Int} (h : W.ownsRow base 3 1 (.slice (some ⟨g, 0, none⟩) n c) n (rowI l)) (j : Nat) (hj : j < l.length) : W.cell? ⟨g, j, none⟩ = some (.int .i64 l[j]) := by
  have := h.cells (g := g) rfl j (.int .i64 l[j]) (by simp [rowI, hj])
  rwa [addA, Nat.zero_add] at this
/-- What is known while the next hops are told. -/
structure HpI (w : World) (F : Int) (v : Value) (B0 : Nat) (va : Value) (E : List (BitVec 128)) (vh : Value) (H : List Int) (W : World) : Prop where
  t : AtU W w.heap.size F v
  at' : W.ownsRow w.heap.size 27 2 va E.length (rowW E)
  hp : W.ownsRow B0 3 1 vh H.length (rowI H)
  bel : Below w.heap.size w W
  va : ∀ z, va.ownBlock = some z → z < B0
  b0 : w.heap.size < B0
  bs : B0 ≤ W.heap.size
theorem HpI.below {w : World} {F : Int} {v : Value} {B0 : Nat} {va : Value} {E : List (BitVec 128)} {vh : Value} {H : List Int} {W W' : World} (k : HpI w F v B0 va E vh H W) (hb : Below W.heap.size W W') : HpI w F v B0 va E vh H W' :=
  ⟨k.t.heap (hb.block _ k.t.lt), own_below hb k.at', own_below hb k.hp, keepb hb k.bel, k.va, k.b0, Nat.le_trans k.bs hb.size⟩
theorem HpI.app {w : World} {F : Int} {v : Value} {B0 : Nat} {va : Value} {E : List (BitVec 128)} {vh : Value} {H : List Int} {W w4 : World} (k : HpI w F v B0 va E vh H W) {n : Nat} (hn : H.length = n) (eh : Int) (g cap : Nat)
    (hown : w4.ownsRow B0 3 1 (.slice (some ⟨g, 0, none⟩) (n + 1) cap) (n + 1) (rowI H ++ [.int .i64 eh])) (hg : W.grownBy w4 vh.ownBlock) : HpI w F v B0 va E (.slice (some ⟨g, 0, none⟩) (n + 1) cap) (H ++ [eh]) w4 := by
  have b0 := k.b0
  refine ⟨k.t.heap (hg.block _ k.t.lt (fun e => ?_)), own_heap k.at' (fun z e => hg.block z (k.at'.lt z e).2 (fun q => ?_)), ?_, k.bel.grown hg k.bel.size (fun z e => by have := (k.hp.lt z e).1; omega), k.va, k.b0, Nat.le_trans k.bs hg.size⟩
  · have := (k.hp.lt _ e.symm).1; omega
  · have h1 := (k.hp.lt _ q.symm).1
    have h2 := k.va z e
    omega
  · rw [List.length_append, hn, rowI_one]
    exact hown
theorem eds_ends {F : Int} {S T : List (BitVec 128)} {l : List Rte} (h : EdS F S l T) : Ends F T l := fun r hr => ⟨(h.2.1 _).mpr (.inr (.inr ⟨r, hr, .inl rfl⟩)), fun hb => (h.2.1 _).mpr (.inr (.inr ⟨r, hr, .inr ⟨hb, rfl⟩⟩))⟩
theorem eds_zero_mem {F : Int} {S T : List (BitVec 128)} {l : List Rte} (h : EdS F S l T) : 0#128 ∈ T := (h.2.1 _).mpr (.inr (.inl rfl))
theorem eds_right {F : Int} {S T : List (BitVec 128)} {l : List Rte} (hf : fam F = true) (hL : ∀ r ∈ l, Ro F r) (hS : ∀ y ∈ S, rightE F y = 0) (h : EdS F S l T) : ∀ y ∈ T, rightE F y = 0 := by
  intro y hy
  rcases (h.2.1 y).mp hy with q | q | ⟨r, hr, q | ⟨q1, q2⟩⟩
  · exact hS y q
  · rw [q]; exact zero_right F hf
  · rw [q]; exact rt_right F hf r (hL r hr)
  · rw [q2]
    obtain ⟨_, hf', _, h3⟩ := next_nat F _ q1
    exact right_of F _ hf' h3
theorem mat_eq_look (F : Int) (x : BitVec 128) (l : List Rte) (hL : ∀ q ∈ l, Ro F q) (hO : l.Pairwise (fun a b => pcmpZ a.1.1 a.1.2 b.1.1 b.1.2 < 0)) : hopM (mat x none l) = look x 0 l := mat_look F x l none (fun o e => by cases e) hL hO
end Go.Proofs.YtonagfmkplbooaaGreatDoor
/-
  What the calls of the law's SameRoutes, Same (of two that are the same) and Right do.
-/
namespace Go.Proofs.YtonagfmkplbooaaGreatDoor
open Go.RowKit
set_option linter.unusedSimpArgs false
set_option linter.unusedVariables false

theorem eqR_run (x : BitVec 128) (n h : Int) (w : World) :
    (Op.equalIn 10000 45 (.agg #[.int .u64 (hI x), .int .u64 (lI x), .int .i64 n, .int .i64 h]) (.agg #[.int .u64 (hI x), .int .u64 (lI x), .int .i64 n, .int .i64 h])).run Tryz.prog w = .ok true w := by
  go_simp
set_option maxHeartbeats 4000000 in
theorem sameRoutes_any (v u : Value) (l : List Rte) (w : World) (hv : RwR w v l) (hu : RwR w u l) (hl : l.length ≤ 1000000000) :
    Calls Tryz.prog 31 #[v, u] w fun e w' => e = .returned (.bool true) ∧ Below w.heap.size w w' := by
  obtain ⟨ao, c, rfl, hv⟩ := hv
  obtain ⟨au, d, rfl, hu⟩ := hu
  have HV := hidR hv
  have HU := hidR hu
  clear hv hu
  go_enter Tryz.func31, Tryz.ntmps31
  go_wp2_with fail
  go_loopw [5] (fun i wr => ∃ k : Nat, k ≤ l.length ∧ i = .int .i64 k ∧ Below w.heap.size w wr) (fun i _ => l.length - (intOf i).toNat)
  case atStart => exact ⟨0, by omega, rfl, Below.refl _ _⟩
  case round =>
    obtain ⟨k, hk, rfl, hB⟩ := hrel
    by_cases hlt : (k : Int) < (l.length : Int)
    · have hks : k < l.length := by omega
      rcases HV.out with e | ⟨b, off, rfl, hc⟩
      · rw [e] at hks; simp at hks
      · rcases HU.out with e | ⟨b', off', rfl, hc'⟩
        · rw [e] at hks; simp at hks
        · obtain ⟨x0, x1, x2, x3⟩ := rwr_cells hc k hks
          obtain ⟨y0, y1, y2, y3⟩ := rwr_cells hc' k hks
          have x0 := keepc hB x0
          have x1 := keepc hB x1
          have x2 := keepc hB x2
          have x3 := keepc hB x3
          have y0 := keepc hB y0
          have y1 := keepc hB y1
          have y2 := keepc hB y2
          have y3 := keepc hB y3
          have hE := fun w => eqR_run l[k].1.1 l[k].1.2 l[k].2 w
          generalize l[k].1.1 = px at *
          generalize l[k].1.2 = pn at *
          generalize l[k].2 = ph at *
          have mk : IntKind.i64.wrap ((k : Int) + 1) = (k : Int) + 1 := by rw [IntKind.wrap_i64]; omega
          clear hc hc' HV HU
          go_wp2_with fail
          go_quiet (fail)
          go_wp2
          go_roundw
          case rel => exact ⟨k + 1, by omega, by go_num, below_drewN hB _⟩
          case measure => simp [intOf]; omega
    · have hd : ¬ k < l.length := by omega
      clear HV HU
      go_wp2
      go_ret
      exact ⟨rfl, hB⟩
set_option maxHeartbeats 2000000 in
theorem sameT_any (F : Int) (v u : Value) (l : List Rte) (w : World) (hv : RwR w v l) (hu : RwR w u l) (hl : l.length ≤ 1000000000) :
    Calls Tryz.prog 13 #[.agg #[.int .i64 F, v], .agg #[.int .i64 F, u]] w fun e w' => e = .returned (.bool true) ∧ Below w.heap.size w w' := by
  have b1 := bl1 w (.cells #[.int .i64 F, v] 24)
  have b2 := bl1 (w.alloc (.cells #[.int .i64 F, v] 24)) (.cells #[.int .i64 F, u] 24)
  have KS := sameRoutes_any v u l _ ((hv.below b1).below b2) ((hu.below b1).below b2) hl
  obtain ⟨p0, p1⟩ := (att_new w w.heap.size F v 24 rfl).below b2
  obtain ⟨q0, q1⟩ := att_new (w.alloc (.cells #[.int .i64 F, v] 24)) (w.heap.size + 1) F u 24 (by simp)
  have HB := hidR (keepb b2 b1)
  obtain ⟨ao, c, rfl, -⟩ := hv
  obtain ⟨au, d, rfl, -⟩ := hu
  clear b1 b2
  go_enter Tryz.func13, Tryz.ntmps13
  go_wp2_with fail
  refine KS.mono ?_
  rintro e w1 ⟨rfl, hb⟩
  have kB := keepb hb HB.out
  clear KS hb HB p0 p1 q0 q1
  go_wp2
  go_ret
  exact ⟨rfl, kB⟩
/-- Is a table right? -/
def RightT (F : Int) (l : List Rte) : Prop := l.length ≤ 3000 ∧ rtsE F l = 0 ∧ Adj l
end Go.Proofs.YtonagfmkplbooaaGreatDoor
