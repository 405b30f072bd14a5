/-
  Part 24 of the proof: 3 texts, one behind the other.
-/
import Derived.Test.YtmkjlcfoedglmaaPart22
import Derived.Test.YtmkjlcfoedglmaaPart23
import Derived.Test.YtmkjlcfoedglmaaPart10
import Derived.Test.YtmkjlcfoedglmaaPart8
import Derived.Test.YtmkjlcfoedglmaaPart19
import Derived.Test.YtmkjlcfoedglmaaPart20
import Derived.Test.YtmkjlcfoedglmaaPart9
import Derived.Test.YtmkjlcfoedglmaaPart2
import Derived.Laws.CopyRow
/-
  What the call of turnpikeref6's Segs does.
-/
namespace Go.Proofs.Ytmkjlcfoedglmaa
open Go.RowKit
set_option linter.unusedSimpArgs false
set_option linter.unusedVariables false

def rowI (l : List Int) : List Value := l.map fun h => .int .i64 h
theorem rowI_one (l : List Int) (h : Int) : rowI (l ++ [h]) = rowI l ++ [.int .i64 h] := by simp [rowI]
theorem newsI {W : World} {N : Nat} {h : Int} (k : W.cell? ⟨N, 0, none⟩ = some (.int .i64 h)) : ∀ j u, [Value.int .i64 h][j]? = some u → W.cell? ((⟨N, 0, none⟩ : Addr).add j) = some u := by
  intro j u hj
  match j, hj with
  | 0, hj => simp at hj; subst hj; rw [addA]; exact k
theorem oneI (h : Int) : ∀ u ∈ [Value.int .i64 h], u.oneCell' = true := by
  intro u hu; simp at hu; rcases hu with rfl; rfl
theorem Try.infoI : (Try.prog.info? 3).map (fun i => (i.zero, i.size, i.bytes)) = some (some (.int .i64 0), 1, 8) := by kernel_rfl
theorem ownI_cells {W : World} {base n g c : Nat} {l : List Int} (h : W.ownsRow base 3 1 (.slice (some ⟨g, 0, none⟩) n c) n (rowI l)) (j : Nat) (hj : j < l.length) : W.cell? ⟨g, j, none⟩ = some (.int .i64 l[j]) := by
  have := h.cells (g := g) rfl j (.int .i64 l[j]) (by simp [rowI, hj])
  rwa [addA, Nat.zero_add] at this
/-- What is known while the next hops are told. -/
structure HpI (w : World) (F : Int) (v : Value) (B0 : Nat) (va : Value) (E : List (BitVec 128)) (vh : Value) (H : List Int) (W : World) : Prop where
  t : AtU W w.heap.size F v
  at' : W.ownsRow w.heap.size 40 2 va E.length (rowW E)
  hp : W.ownsRow B0 3 1 vh H.length (rowI H)
  bel : Below w.heap.size w W
  va : ∀ z, va.ownBlock = some z → z < B0
  b0 : w.heap.size < B0
  bs : B0 ≤ W.heap.size
theorem HpI.below {w : World} {F : Int} {v : Value} {B0 : Nat} {va : Value} {E : List (BitVec 128)} {vh : Value} {H : List Int} {W W' : World} (k : HpI w F v B0 va E vh H W) (hb : Below W.heap.size W W') : HpI w F v B0 va E vh H W' :=
  ⟨k.t.heap (hb.block _ k.t.lt), own_below hb k.at', own_below hb k.hp, keepb hb k.bel, k.va, k.b0, Nat.le_trans k.bs hb.size⟩
theorem HpI.app {w : World} {F : Int} {v : Value} {B0 : Nat} {va : Value} {E : List (BitVec 128)} {vh : Value} {H : List Int} {W w4 : World} (k : HpI w F v B0 va E vh H W) {n : Nat} (hn : H.length = n) (eh : Int) (g cap : Nat)
    (hown : w4.ownsRow B0 3 1 (.slice (some ⟨g, 0, none⟩) (n + 1) cap) (n + 1) (rowI H ++ [.int .i64 eh])) (hg : W.grownBy w4 vh.ownBlock) : HpI w F v B0 va E (.slice (some ⟨g, 0, none⟩) (n + 1) cap) (H ++ [eh]) w4 := by
  have b0 := k.b0
  refine ⟨k.t.heap (hg.block _ k.t.lt (fun e => ?_)), own_heap k.at' (fun z e => hg.block z (k.at'.lt z e).2 (fun q => ?_)), ?_, k.bel.grown hg k.bel.size (fun z e => by have := (k.hp.lt z e).1; omega), k.va, k.b0, Nat.le_trans k.bs hg.size⟩
  · have := (k.hp.lt _ e.symm).1; omega
  · have h1 := (k.hp.lt _ q.symm).1
    have h2 := k.va z e
    omega
  · rw [List.length_append, hn, rowI_one]
    exact hown
theorem ord_pair {l : List Rte} (h : OrdR l) : l.Pairwise (fun a b => pcmpZ a.1.1 a.1.2 b.1.1 b.1.2 < 0) := by
  rw [List.pairwise_iff_getElem]
  intro i j hi hj hij
  exact h i j hj hij
/-- What Check's OK says of a table. -/
theorem tab_ok {F : Int} {l : List Rte} (h : TabE F l 0) : fam F = true ∧ l.length ≤ 1048576 ∧ (∀ r ∈ l, Ro F r) ∧ l.Pairwise (fun a b => pcmpZ a.1.1 a.1.2 b.1.1 b.1.2 < 0) := by
  have h0 : rtsE F l = 0 := by
    by_cases h' : rtsE F l = 0
    · exact h'
    · have := h.1 h'; omega
  obtain ⟨hf, h1, h2⟩ := rts_all F l h0
  rcases h.2 h0 with ⟨ha, -⟩ | ⟨-, q⟩
  · exact ⟨hf, h1, fun r hr => rte_ro F r hf (h2 r hr), ord_pair (ord_adj ha)⟩
  · omega
theorem eds_ends {F : Int} {S T : List (BitVec 128)} {l : List Rte} (h : EdS F S l T) : Ends F T l := fun r hr => ⟨(h.2.1 _).mpr (.inr (.inr ⟨r, hr, .inl rfl⟩)), fun hb => (h.2.1 _).mpr (.inr (.inr ⟨r, hr, .inr ⟨hb, rfl⟩⟩))⟩
theorem eds_zero_mem {F : Int} {S T : List (BitVec 128)} {l : List Rte} (h : EdS F S l T) : 0#128 ∈ T := (h.2.1 _).mpr (.inr (.inl rfl))
theorem zero_right (F : Int) (hf : fam F = true) : rightE F 0#128 = 0 := by
  rcases fam_ways F hf with rfl | rfl <;> decide +kernel
theorem rt_right (F : Int) (hf : fam F = true) (r : Rte) (h : Ro F r) : rightE F r.1.1 = 0 := by
  exact right_of F _ hf (rt_fam F _ _ h.1)
theorem eds_right {F : Int} {S T : List (BitVec 128)} {l : List Rte} (hf : fam F = true) (hL : ∀ r ∈ l, Ro F r) (hS : ∀ y ∈ S, rightE F y = 0) (h : EdS F S l T) : ∀ y ∈ T, rightE F y = 0 := by
  intro y hy
  rcases (h.2.1 y).mp hy with q | q | ⟨r, hr, q | ⟨q1, q2⟩⟩
  · exact hS y q
  · rw [q]; exact zero_right F hf
  · rw [q]; exact rt_right F hf r (hL r hr)
  · rw [q2]
    obtain ⟨_, hf', _, h3⟩ := next_nat F _ q1
    exact right_of F _ hf' h3
theorem ro_cells {F : Int} {l : List Rte} (hf : fam F = true) (hL : ∀ r ∈ l, Ro F r) : ∀ r ∈ l, 0 ≤ r.1.2 ∧ r.1.2 ≤ 128 ∧ cutW r.1.1 r.1.2 = r.1.1 := by
  intro r hr
  obtain ⟨⟨h0, h1, h2⟩, -⟩ := hL r hr
  have : F ≤ 128 := by rcases fam_ways F hf with rfl | rfl <;> decide
  exact ⟨h0, by omega, h2⟩
theorem mat_eq_look (F : Int) (x : BitVec 128) (l : List Rte) (hL : ∀ q ∈ l, Ro F q) (hO : l.Pairwise (fun a b => pcmpZ a.1.1 a.1.2 b.1.1 b.1.2 < 0)) : hopM (mat x none l) = look x 0 l := mat_look F x l none (fun o e => by cases e) hL hO
set_option maxRecDepth 20000 in
set_option maxHeartbeats 16000000 in
theorem rsegs_any (F : Int) (v : Value) (l : List Rte) (w : World) (hv : RwR w v l) :
    Calls Try.prog 9 #[.agg #[.int .i64 F, v]] w fun e w' => (∃ z v', TabE F l z ∧ e = .returned (.tuple #[v', .int .i64 z]) ∧ (z = 0 → w'.ownsRow w.heap.size 52 5 v' (swp F l).length (rowG (swp F l))) ∧ (z ≠ 0 → v' = .slice none 0 0)) ∧ Below w.heap.size w w' := by
  obtain ⟨i0, hi, hz0, hz1, hz2⟩ := info_parts Try.infoI
  have b0 := bl1 w (.cells #[.int .i64 F, v] 24)
  have KC := rcheckT_any F v l _ (hv.below b0)
  have HT := hidR (atu_new w w.heap.size F v 24 rfl)
  have HV := hidR hv
  have HB := hidR b0
  obtain ⟨t0, t1, -, -⟩ := HT.out
  obtain ⟨ao, c, rfl, -⟩ := hv
  clear b0
  go_enter Try.func9, Try.ntmps9
  go_wp2_with fail
  refine KC.mono ?_
  rintro e w1 ⟨⟨z, hz, rfl⟩, hb⟩
  have HB1 := hidR (keepb hb HB.out)
  have HT1 := hidR (HT.out.heap (hb.block _ HT.out.lt))
  clear KC hb t0 t1 HB HT
  obtain ⟨t0, t1, -, -⟩ := HT1.out
  by_cases hz0' : z = 0
  · subst hz0'
    obtain ⟨hf, hlen, hL, hO⟩ := tab_ok hz
    have HZ := hidR hz
    have HL := hidR hL
    have HO := hidR hO
    have HF := hidR hf
    clear hz hL hO hf
    have KE := redges_any w1 F (.slice ao l.length c) l (.slice none 0 0) [] w1 (Below.refl _ _) (HV.out.below HB1.out) (World.ownsRow_nil _ _ _ _) List.Pairwise.nil (by simp; omega) (fun r hr => (HL.out r hr).1)
    go_wp2_with fail
    refine KE.mono ?_
    rintro e w2 ⟨va, E, rfl, hE, ho, hb⟩
    have hEl : E.length ≤ 2100000 := by have := hE.2.2; simp at this; omega
    have HE := hidR hE
    have HB2 := hidR (keepb hb HB1.out)
    have HT2 := hidR (HT1.out.heap (hb.block _ HT1.out.lt))
    have hne : E ≠ [] := fun e => by have := eds_zero_mem hE; rw [e] at this; cases this
    have hE0 : 0 < E.length := by have : E.length ≠ 0 := fun e => hne (List.length_eq_zero_iff.mp e); omega
    have how := ho.1
    obtain ⟨ga, ca, rfl, -, -⟩ := how.form hE0
    have HI0 : Hid (HpI w F (.slice ao l.length c) w2.heap.size (.slice (some ⟨ga, 0, none⟩) E.length ca) E (.slice none 0 0) [] w2) := hidR ⟨HT2.out, own_wide how HB1.out.size, World.ownsRow_nil _ _ _ _, HB2.out, fun z e => (how.lt z e).2, HT2.out.lt, Nat.le_refl _⟩
    clear KE ho hb hne how hE HB1 HT1 HB2 HT2 t0 t1
    go_wp2_with fail
    generalize w2.heap.size = B0 at *
    go_loopw [6, 7] (fun vh i wr => ∃ (k : Nat) (vh' : Value), k ≤ E.length ∧ i = .int .i64 k ∧ vh' = vh ∧ Hid (HpI w F (.slice ao l.length c) B0 (.slice (some ⟨ga, 0, none⟩) E.length ca) E vh' ((E.take k).map fun e => look e 0 l) wr)) (fun _ i _ => E.length - (intOf i).toNat)
    case atStart => exact ⟨0, _, by omega, rfl, rfl, by simpa using HI0⟩
    case round =>
      clear HI0
      obtain ⟨k, vh, hk, rfl, rfl, HI⟩ := hrel
      by_cases hlt : (k : Int) < (E.length : Int)
      · have hks : k < E.length := by omega
        have hkw : IntKind.i64.wrap ((k : Int) + 1) = (k : Int) + 1 := by rw [IntKind.wrap_i64]; omega
        have HTE : Hid ((E.take (k + 1)).map (fun e => look e 0 l) = (E.take k).map (fun e => look e 0 l) ++ [look E[k] 0 l]) := hidR (by rw [List.take_succ_eq_append_getElem hks, List.map_append]; rfl)
        have HHL : Hid (((E.take k).map (fun e => look e 0 l)).length = k) := hidR (by rw [List.length_map, List.length_take]; omega)
        have HY : Hid (∀ W : World, W.ownsRow w.heap.size 40 2 (.slice (some ⟨ga, 0, none⟩) E.length ca) E.length (rowW E) → W.cell? ⟨ga, k * 2, none⟩ = some (.int .u64 (hI E[k])) ∧ W.cell? ⟨ga, k * 2 + 1, none⟩ = some (.int .u64 (lI E[k]))) := hidR (fun W h => ownW_cells h k hks)
        have KLk : Hid (∀ W, Below w.heap.size w W → Calls Try.prog 19 #[.agg #[.int .i64 F, .slice ao l.length c], .agg #[.int .u64 (hI E[k]), .int .u64 (lI E[k])]] W fun e w' => e = .returned (.int .i64 (look E[k] 0 l)) ∧ Below W.heap.size W w') := hidR (fun W hb => by
          have := rlookup_any F E[k] (.slice ao l.length c) l W (HV.out.below hb) (by omega) (ro_cells HF.out HL.out)
          rwa [mat_eq_look F E[k] l HL.out HO.out] at this)
        revert HI HTE HHL HY KLk
        generalize (E.take k).map (fun e => look e 0 l) = H
        generalize look E[k] 0 l = eh
        generalize E[k] = ex
        intro HI HTE HHL HY KLk
        obtain ⟨ae, ce, rfl⟩ := own_form HI.out.hp
        rw [HHL.out]
        rw [HHL.out] at HI
        generalize hvv : (.slice ao l.length c : Value) = v at HI KLk ⊢
        clear hvv
        go_wp2_with fail
        refine ap_region 9 7 8 (alOk (qpOk 9 7 (by decide) (fun N => by kernel_rfl) (by kernel_rfl) (by kernel_rfl) (by kernel_rfl) (by kernel_rfl)) (by decide) rfl rfl (by kernel_rfl)) (alOk (qpOk 9 8 (by decide) (fun N => by kernel_rfl) (by kernel_rfl) (by kernel_rfl) (by kernel_rfl) (by kernel_rfl)) (by decide) rfl rfl (by kernel_rfl)) (by decide) (by kernel_rfl) (D := fun W => HpI w F v B0 (.slice (some ⟨ga, 0, none⟩) E.length ca) E (.slice ae k ce) H W) (C1 := fun N W => HpI w F v B0 (.slice (some ⟨ga, 0, none⟩) E.length ca) E (.slice ae k ce) H W ∧ W.cell? ⟨N, 0, none⟩ = some (.int .i64 eh)) (C2 := fun N M W => HpI w F v B0 (.slice (some ⟨ga, 0, none⟩) E.length ca) E (valT (k + 1) M) (H ++ [eh]) W) [some 21, some 22, some 23, some 24, some 25, some 26, some 27, some 28, some 29] (fun N M => [.slice ae k ce, .agg #[.int .i64 F, v], .slice (some ⟨ga, 0, none⟩) E.length ca, .int .i64 (k : Int), .pointer (some ⟨ga, k * 2, none⟩), .agg #[.int .u64 (hI ex), .int .u64 (lI ex)], .int .i64 eh, .slice (some ⟨N, 0, none⟩) 1 1, valT (k + 1) M]) (fun N => .slice (some ⟨N, 0, none⟩) 1 1) (fun M => valT (k + 1) M) 28 29 [27] [21, 28] (by kernel_rfl) (fun N M => by kernel_rfl) rfl rfl ?hA4 ?hA41 ?hA42 (by kernel_rfl) (by kernel_rfl) (by decide) (by decide) ?h14 ?h24 (HI.out.below (below_drewN (Below.refl _ _) 1)) ?walk4 ?fin4
        case hA4 => intro N M; simp only [putAll, Act.put, List.setIfInBounds_toArray, List.set_cons_zero, List.set_cons_succ]; try rfl
        case hA41 => intro N M; simp only [putAll, Act.put, List.setIfInBounds_toArray, List.set_cons_zero, List.set_cons_succ]; try rfl
        case hA42 => intro N M; simp only [putAll, Act.put, List.setIfInBounds_toArray, List.set_cons_zero, List.set_cons_succ]; try rfl
        case h14 =>
          intro W a' hC hr K Q' hK
          have e27 : a'.tmps[27]? = some (.int .i64 eh) := (hr 27 (by simp)).trans (by simp only [putAll, Act.put, List.setIfInBounds_toArray, List.set_cons_zero, List.set_cons_succ]; rfl)
          have hK' := hK W.heap.size (W.alloc (.cells #[.int .i64 eh] 3)) ⟨hC.below (bl1 W _), by simp [go_sem]⟩
          clear hr
          unfold Oper.wp
          simp [execOp, e27, go_sem, Oper.upon]
          exact hK'
        case h24 =>
          intro N W a' hC hr K Q' hK
          have e21 : a'.tmps[21]? = some (.slice ae k ce) := (hr 21 (by simp)).trans (by simp only [putAll, Act.put, List.setIfInBounds_toArray, List.set_cons_zero, List.set_cons_succ]; rfl)
          have e28 : a'.tmps[28]? = some (.slice (some ⟨N, 0, none⟩) 1 1) := (hr 28 (by simp)).trans (by simp only [putAll, Act.put, List.setIfInBounds_toArray, List.set_cons_zero, List.set_cons_succ]; rfl)
          have hownN := hC.1.hp
          rw [HHL.out] at hownN
          refine wp_append_lies W (.tmp 21) (.tmp 28) 58 rfl B0 3 i0 (.int .i64 0) 1 8 Try.underlying58 hi hz0 hz1 hz2 rfl (by decide) (.slice ae k ce) k (rowI H) (by simp [Act.eval, e21]) hownN ⟨N, 0, none⟩ 1 1 [.int .i64 eh] (by simp [Act.eval, e28]) rfl (newsI hC.2) (oneI _) (by decide) (by unfold maxLen; omega) (by omega) (by have := hC.1.bs; omega) _ rfl ?_
          intro g4 cap4 w4 hown4 hgrow hat hlt4
          obtain ⟨M, hM⟩ := decN_ex g4 cap4
          have eM : (.slice (some ⟨g4, 0, none⟩) (k + 1) cap4 : Value) = valT (k + 1) M := by rw [valT, hM]
          have q4 := hC.1.app HHL.out eh g4 cap4 hown4 hgrow
          rw [eM] at q4
          rw [eM]
          exact hK M w4 q4
        case walk4 =>
          intro N M X hX
          have hXD : ∀ W, X W → AtU W w.heap.size F v ∧ (W.cell? ⟨ga, k * 2, none⟩ = some (.int .u64 (hI ex)) ∧ W.cell? ⟨ga, k * 2 + 1, none⟩ = some (.int .u64 (lI ex))) := by
            rcases hX with rfl | rfl | rfl
            · exact fun W h => ⟨h.t, HY.out W h.at'⟩
            · exact fun W h => ⟨h.1.t, HY.out W h.1.at'⟩
            · exact fun W h => ⟨h.t, HY.out W h.at'⟩
          have hXb : ∀ W W', X W → Below W.heap.size W W' → X W' := by
            rcases hX with rfl | rfl | rfl
            · exact fun W W' h hb => h.below hb
            · exact fun W W' h hb => ⟨h.1.below hb, keepc hb h.2⟩
            · exact fun W W' h hb => h.below hb
          have hXK : ∀ W, X W → Calls Try.prog 19 #[.agg #[.int .i64 F, v], .agg #[.int .u64 (hI ex), .int .u64 (lI ex)]] W fun e w' => e = .returned (.int .i64 eh) ∧ Below W.heap.size W w' := by
            rcases hX with rfl | rfl | rfl
            · exact fun W h => KLk.out W h.bel
            · exact fun W h => KLk.out W h.1.bel
            · exact fun W h => KLk.out W h.bel
          clear hX HI HY KLk
          dsimp only [rep, List.take, List.modify, List.modifyTailIdx, List.modifyTailIdx.go, List.modifyHead]
          refine q_run (v := .slice ae k ce) (by rfl) ?_ ?_
          · (intro w1 hC; obtain ⟨⟨t0, t1, -, -⟩, ⟨r0, r1⟩⟩ := hXD w1 hC; clear hC; go_simp; first | done | (simp; done) | (simp [*]; done) | omega | (simp; omega) | (rw [IntKind.wrap_i64]; omega) | (intro hx; omega) | rfl)
          simp only [Act.put, List.setIfInBounds_toArray, List.set_cons_zero, List.set_cons_succ]
          refine q_run (v := .agg #[.int .i64 F, v]) (by rfl) ?_ ?_
          · (intro w1 hC; obtain ⟨⟨t0, t1, -, -⟩, ⟨r0, r1⟩⟩ := hXD w1 hC; clear hC; go_simp; first | done | (simp; done) | (simp [*]; done) | omega | (simp; omega) | (rw [IntKind.wrap_i64]; omega) | (intro hx; omega) | rfl)
          simp only [Act.put, List.setIfInBounds_toArray, List.set_cons_zero, List.set_cons_succ]
          refine q_run (v := .slice (some ⟨ga, 0, none⟩) E.length ca) (by rfl) ?_ ?_
          · (intro w1 hC; obtain ⟨⟨t0, t1, -, -⟩, ⟨r0, r1⟩⟩ := hXD w1 hC; clear hC; go_simp; first | done | (simp; done) | (simp [*]; done) | omega | (simp; omega) | (rw [IntKind.wrap_i64]; omega) | (intro hx; omega) | rfl)
          simp only [Act.put, List.setIfInBounds_toArray, List.set_cons_zero, List.set_cons_succ]
          refine q_run (v := .int .i64 (k : Int)) (by rfl) ?_ ?_
          · (intro w1 hC; obtain ⟨⟨t0, t1, -, -⟩, ⟨r0, r1⟩⟩ := hXD w1 hC; clear hC; go_simp; first | done | (simp; done) | (simp [*]; done) | omega | (simp; omega) | (rw [IntKind.wrap_i64]; omega) | (intro hx; omega) | rfl)
          simp only [Act.put, List.setIfInBounds_toArray, List.set_cons_zero, List.set_cons_succ]
          refine q_run (v := .pointer (some ⟨ga, k * 2, none⟩)) (by rfl) ?_ ?_
          · (intro w1 hC; obtain ⟨⟨t0, t1, -, -⟩, ⟨r0, r1⟩⟩ := hXD w1 hC; clear hC; go_simp; first | done | (simp; done) | (simp [*]; done) | omega | (simp; omega) | (rw [IntKind.wrap_i64]; omega) | (intro hx; omega) | rfl)
          simp only [Act.put, List.setIfInBounds_toArray, List.set_cons_zero, List.set_cons_succ]
          refine q_run (v := .agg #[.int .u64 (hI ex), .int .u64 (lI ex)]) (by rfl) ?_ ?_
          · (intro w1 hC; obtain ⟨⟨t0, t1, -, -⟩, ⟨r0, r1⟩⟩ := hXD w1 hC; clear hC; go_simp; first | done | (simp; done) | (simp [*]; done) | omega | (simp; omega) | (rw [IntKind.wrap_i64]; omega) | (intro hx; omega) | rfl)
          simp only [Act.put, List.setIfInBounds_toArray, List.set_cons_zero, List.set_cons_succ]
          refine q_call (v := .int .i64 eh) (f := 19) (args := #[.agg #[.int .i64 F, v], .agg #[.int .u64 (hI ex), .int .u64 (lI ex)]]) (by rfl) ?_ ?_ ?_
          · (intro w1 hC; clear hC; go_simp)
          · exact fun w1 hC => (hXK w1 hC).mono fun e w' ⟨he, hb⟩ => ⟨he, hXb w1 _ hC hb⟩
          simp only [Act.put, List.setIfInBounds_toArray, List.set_cons_zero, List.set_cons_succ]
          refine q_run (v := .slice (some ⟨N, 0, none⟩) 1 1) (by rfl) ?_ ?_
          · (intro w1 hC; obtain ⟨⟨t0, t1, -, -⟩, ⟨r0, r1⟩⟩ := hXD w1 hC; clear hC; go_simp; first | done | (simp; done) | (simp [*]; done) | omega | (simp; omega) | (rw [IntKind.wrap_i64]; omega) | (intro hx; omega) | rfl)
          simp only [Act.put, List.setIfInBounds_toArray, List.set_cons_zero, List.set_cons_succ]
          refine q_run (v := valT (k + 1) M) (by rfl) ?_ ?_
          · (intro w1 hC; obtain ⟨⟨t0, t1, -, -⟩, ⟨r0, r1⟩⟩ := hXD w1 hC; clear hC; go_simp; first | done | (simp; done) | (simp [*]; done) | omega | (simp; omega) | (rw [IntKind.wrap_i64]; omega) | (intro hx; omega) | rfl)
          simp only [Act.put, List.setIfInBounds_toArray, List.set_cons_zero, List.set_cons_succ]
          refine wpQuiet_nil ?_
          simp only [putAll, Act.put, List.setIfInBounds_toArray, List.set_cons_zero, List.set_cons_succ]
        case fin4 =>
          intro N M W hC
          simp only [putAll, Act.put, List.setIfInBounds_toArray, List.set_cons_zero, List.set_cons_succ]
          dsimp only [List.drop]
          obtain ⟨g5, c5, hd⟩ : ∃ g5 c5, valT (k + 1) M = .slice (some ⟨g5, 0, none⟩) (k + 1) c5 := ⟨_, _, rfl⟩
          rw [hd] at hC
          rw [hd]
          have HS := hidR hC
          clear hd hC HI HY KLk
          go_wp2
          go_roundw
          case rel => exact ⟨k + 1, _, by omega, by go_num, rfl, by rw [HTE.out]; exact HS⟩
          case measure => simp [intOf]; omega
      · have hd : ¬ k < E.length := by omega
        have hke : E.take k = E := List.take_of_length_le (by omega)
        rw [hke] at HI
        obtain ⟨gh, ch, rfl, -, -⟩ := HI.out.hp.form (by rw [List.length_map]; exact hE0)
        have hZl : (E.map fun e => (e, look e 0 l)).length = E.length := by simp
        have KJ := rjoined_any F ga ca gh ch (E.map fun e => (e, look e 0 l)) wr (fun k h => by
          have := ownW_cells HI.out.at' k (by simpa using h)
          simpa using this) (fun k h => by
          have := ownI_cells (l := E.map fun e => look e 0 l) (by have := HI.out.hp; simpa using this) k (by simpa using h)
          simpa using this) (by rw [hZl]; omega)
        rw [hZl] at KJ
        have HW : Hid ((jn F [] (E.map fun e => (e, look e 0 l))).reverse = swp F l) := hidR (jn_swp F HF.out l HL.out HO.out E HE.out.1 (eds_zero_mem HE.out) (eds_right HF.out HL.out (fun y hy => by cases hy) HE.out) (eds_ends HE.out))
        have HWL : Hid ((jn F [] (E.map fun e => (e, look e 0 l))).length = (swp F l).length) := hidR (by rw [← HW.out, List.length_reverse])
        obtain ⟨t0, t1, -, -⟩ := HI.out.t
        have HB3 := hidR HI.out.bel
        have hlE : (E.map fun e => look e 0 l).length = E.length := by simp
        rw [hlE]
        clear HI hke hZl
        go_wp2_with fail
        refine KJ.mono ?_
        rintro e w5 ⟨v5, rfl, ho5, hb5⟩
        have HB5 := hidR (keepb hb5 HB3.out)
        rw [HW.out, HWL.out] at ho5
        have HO5 := hidR (own_wide ho5 HB3.out.size)
        clear KJ ho5 hb5 t0 t1 HB3
        go_wp2
        exact bodyPost_ret (v := .tuple #[v5, .int .i64 0]) (by simp [results, Try.results9, go_sem]) rfl ⟨⟨0, v5, HZ.out, rfl, fun _ => HO5.out, fun h => absurd rfl h⟩, HB5.out⟩
  · have hn : (z != 0) = true := by simp [hz0']
    have HE := hidR hz
    have HZ := hidR hz0'
    clear hz hz0'
    go_wp2
    exact bodyPost_ret (v := .tuple #[.slice none 0 0, .int .i64 z]) (by simp [results, Try.results9, go_sem]) rfl ⟨⟨z, _, HE.out, rfl, fun h => absurd h HZ.out, fun _ => rfl⟩, HB1.out⟩
end Go.Proofs.Ytmkjlcfoedglmaa
/-
  What the calls of the law's SameRoutes, Same (of two that are the same) and Right do.
-/
namespace Go.Proofs.Ytmkjlcfoedglmaa
open Go.RowKit
set_option linter.unusedSimpArgs false
set_option linter.unusedVariables false

theorem eqR_run (x : BitVec 128) (n h : Int) (w : World) :
    (Op.equalIn 10000 50 (.agg #[.int .u64 (hI x), .int .u64 (lI x), .int .i64 n, .int .i64 h]) (.agg #[.int .u64 (hI x), .int .u64 (lI x), .int .i64 n, .int .i64 h])).run Try.prog w = .ok true w := by
  go_simp
/-- Is a table right? -/
def RightT (F : Int) (l : List Rte) : Prop := l.length ≤ 3000 ∧ rtsE F l = 0 ∧ Adj l
end Go.Proofs.Ytmkjlcfoedglmaa
/-
  copy of a row of any elements; what the calls of the law's Lend and Kept of tables do.
-/
namespace Go.Proofs.Ytmkjlcfoedglmaa
open Go.RowKit
set_option linter.unusedSimpArgs false
set_option linter.unusedVariables false

theorem wpList_copy_any5 {P : Program} {w : World} {ops : Array Oper} {rest : List Oper} {o : Oper} {a : Act} {Q : Exit → Act → World → Prop} (hgd : o.guard = none) (d s : Operand) (dT sT : TypeId)
    (ho : o.op = .call { callee := .builtin .copy, args := #[d, s], argTypes := #[dT, sT] }) (elem : TypeId) (i : TypeInfo) (size : Nat) (hu : P.underlying dT = some (.slice elem)) (hi : P.info? elem = some i) (hsize : i.size = size)
    (base g n cap : Nat) (xs : List Value) (hd : a.eval d = .slice (some ⟨g, 0, none⟩) n cap) (hown : w.ownsRow base elem size (.slice (some ⟨g, 0, none⟩) n cap) n xs)
    (sp : Option Addr) (sLen sCap : Nat) (hs : a.eval s = .slice sp sLen sCap) (hle : sLen ≤ n) (cs : List Value) (hcl : cs.length = sLen * size) (h0 : sp = none → cs = []) (hsrc : ∀ ad, sp = some ad → ∀ j v, cs[j]? = some v → w.cell? (ad.add j) = some v) (h1 : ∀ v ∈ cs, v.oneCell' = true)
    (h : ∀ w', w'.ownsRow base elem size (.slice (some ⟨g, 0, none⟩) n cap) n (cs ++ xs.drop cs.length) → w.grownBy w' (some g) → wpList P ops Q rest (a.put o.dst (goInt sLen)) w') : wpList P ops Q (o :: rest) a w := by
  rcases hown.2 with ⟨h', _⟩ | ⟨g', cap', cur, h', hb, hg, hnc, hcm, hcs, htake⟩
  · cases h'
  · simp only [Value.slice.injEq, Option.some.injEq, Addr.mk.injEq, and_true, true_and] at h'
    obtain ⟨rfl, rfl⟩ := h'
    subst hsize
    have hxl : xs.length = n * i.size := hown.1
    have hfit : cs.length ≤ n * i.size := by rw [hcl]; exact Nat.mul_le_mul_right _ hle
    have hnc' : n * i.size ≤ cap * i.size := Nat.mul_le_mul_right _ hnc
    have hfc : (Builtin.firstCells i.size sLen (.slice sp sLen sCap)).run P w = .ok cs.toArray w := by
      cases sp with
      | none => rw [h0 rfl]; exact run_firstCells_none w i.size sLen sLen sCap
      | some ad => exact run_firstCells_some w i.size sLen ad sLen sCap cs hcl (hsrc ad rfl)
    have hst := run_storeCells_at P g 0 elem cs 0 cur w hg (by simp; omega) h1
    have hmin : Nat.min sLen n = sLen := Nat.min_eq_left hle
    refine wpList_plain hgd fun K hK => ?_
    unfold Oper.wp
    simp only [Nat.add_zero, List.take_zero, List.nil_append, Nat.zero_add] at hst
    simp [execOp, ho, resolve, invoke, builtin, hd, hs, Builtin.copy_, run_underlying hu, Builtin.lenOf, sizeOf, typeInfo, hi, hmin, hfc, hst, Result.andThen]
    refine hK _ _ (h _ ?_ ?_)
    · refine ⟨?_, .inr ⟨g, cap, (cs ++ cur.toList.drop cs.length).toArray, rfl, hb, setRow_heap w g cur _ elem _ hg, hnc, hcm, ?_, ?_⟩⟩
      · rw [List.length_append, List.length_drop]; omega
      · simp; omega
      · show ((cs ++ cur.toList.drop cs.length)).take (n * i.size) = _
        rw [List.take_append, List.take_of_length_le hfit, ← htake, List.drop_take]
    · exact ⟨rfl, rfl, rfl, by simp [World.setRow], fun k _ hk => setRow_other w g k _ (fun e => hk (by simp [e]))⟩
/-- The marks behind a list. -/
def mkR (n j : Nat) : List Rte := (List.range j).map fun (q : Nat) => ((0#128, 0), -7 - ((n : Int) + (q : Int)))
theorem mkR_succ (n j : Nat) : mkR n (j + 1) = mkR n j ++ [((0#128, 0), -7 - ((n : Int) + (j : Int)))] := by
  unfold mkR
  rw [List.range_succ, List.map_append]
  rfl
theorem mkR_len (n j : Nat) : (mkR n j).length = j := by unfold mkR; simp
theorem rowR_len5 : ∀ l, (rowR l).length = l.length * 4 := by
  intro l
  induction l with
  | nil => rfl
  | cons p l ih => simp only [rowR, List.length_cons, ih]; omega
theorem rowR_app5 : ∀ l m, rowR (l ++ m) = rowR l ++ rowR m := by
  intro l
  induction l with
  | nil => intro m; rfl
  | cons p l ih => intro m; simp [rowR, ih]
theorem rowR_one5 (l : List Rte) (x : BitVec 128) (n h : Int) : rowR (l ++ [((x, n), h)]) = rowR l ++ [.int .u64 (hI x), .int .u64 (lI x), .int .i64 n, .int .i64 h] := by rw [rowR_app5]; rfl
theorem rowR_cell5 (l : List Rte) : ∀ u ∈ rowR l, u.oneCell' = true := by
  induction l with
  | nil => intro u hu; cases hu
  | cons p l ih =>
    intro u hu
    simp only [rowR, List.mem_cons] at hu
    rcases hu with rfl | rfl | rfl | rfl | hu
    · rfl
    · rfl
    · rfl
    · rfl
    · exact ih u hu
theorem set4L (A rs : List Value) (n : Nat) (hn : A.length = n) (x y z u : Value) (h : 4 ≤ rs.length) : ((((A ++ rs).set n x).set (n + 1) y).set (n + 2) z).set (n + 3) u = A ++ x :: y :: z :: u :: rs.drop 4 := by
  subst hn
  match rs, h with
  | a :: b :: c :: d :: rs, _ =>
    rw [List.set_append_right _ _ (Nat.le_refl _), Nat.sub_self, List.set_append_right _ _ (by omega), List.set_append_right _ _ (by omega), List.set_append_right _ _ (by omega)]
    have e1 : A.length + 1 - A.length = 1 := by omega
    have e2 : A.length + 2 - A.length = 2 := by omega
    have e3 : A.length + 3 - A.length = 3 := by omega
    rw [e1, e2, e3]
    rfl
theorem drop4 (xs : List Value) (k : Nat) (x y z u : Value) : ((((xs.set (k * 4) x).set (k * 4 + 1) y).set (k * 4 + 2) z).set (k * 4 + 3) u).drop ((k + 1) * 4) = xs.drop ((k + 1) * 4) := by
  rw [List.drop_set_of_lt (by omega), List.drop_set_of_lt (by omega), List.drop_set_of_lt (by omega), List.drop_set_of_lt (by omega)]
theorem drop_get5 (xs ys : List Value) (m : Nat) (h : xs.drop m = ys.drop m) (r : Nat) : xs[m + r]? = ys[m + r]? := by
  have := congrArg (fun z => z[r]?) h
  simpa [List.getElem?_drop] using this
theorem stopHere5 {P : Program} {w : World} {ops : Array Oper} {rest : List Oper} {a : Act} {Q : Exit → Act → World → Prop} {o : Oper} (h : Hid (wpList P ops Q (o :: rest) a w)) : wpList P ops Q (o :: rest) a w := h.out
theorem Try.infoR5 : (Try.prog.info? 50).map (fun i => (i.zero, i.size, i.bytes)) = some (some (.agg #[.int .u64 0, .int .u64 0, .int .i64 0, .int .i64 0]), 4, 32) := by kernel_rfl
/-- A table, and the one that is answered. -/
def LnT (w : World) (F : Int) (v : Value) (W : World) : Prop := AtU W w.heap.size F v ∧ AtU W (w.heap.size + 1) 0 (.slice none 0 0)
theorem LnT.heap {w : World} {F : Int} {v : Value} {W W' : World} (k : LnT w F v W) (h : ∀ z, z < w.heap.size + 2 → W'.heap[z]? = W.heap[z]?) : LnT w F v W' := ⟨k.1.heap (h _ (by omega)), k.2.heap (h _ (by omega))⟩
set_option maxRecDepth 20000 in
set_option maxHeartbeats 8000000 in
theorem lend5_any (F : Int) (v : Value) (l : List Rte) (w : World) (hv : RwR w v l) (hl : l.length ≤ 1000000) :
    Calls Try.prog 6 #[.agg #[.int .i64 F, v]] w fun e w' => (∃ g, e = .returned (.agg #[.int .i64 F, .slice (some ⟨g, 0, none⟩) l.length (l.length + 3)]) ∧ w'.ownsRow w.heap.size 50 4 (.slice (some ⟨g, 0, none⟩) (l.length + 3) (l.length + 3)) (l.length + 3) (rowR (l ++ mkR l.length 3))) ∧ Below w.heap.size w w' := by
  obtain ⟨i0, hi, hz0, hz1, hz2⟩ := info_parts Try.infoR5
  obtain ⟨ao, c, rfl, hv⟩ := hv
  have HV : Hid (l = [] ∨ ∃ b off, ao = some ⟨b, off, none⟩ ∧ ∀ j u, (rowR l)[j]? = some u → w.cell? ⟨b, off + j, none⟩ = some u) := hv
  clear hv
  have m1 : IntKind.i64.wrap ((l.length : Int) + 3) = (l.length : Int) + 3 := by rw [IntKind.wrap_i64]; omega
  have hby : i0.bytes * (l.length + 3) ≤ 281474976710656 := by rw [hz2]; omega
  have q1 := bl1 w (.cells #[.int .i64 F, .slice ao l.length c] 24)
  have q2 := bl1 (w.alloc (.cells #[.int .i64 F, .slice ao l.length c] 24)) (.cells #[.int .i64 0, .slice none 0 0] 24)
  have a1 := atu_new w w.heap.size F (.slice ao l.length c) 24 rfl
  have HT : Hid (LnT w F (.slice ao l.length c) ((w.alloc (.cells #[.int .i64 F, .slice ao l.length c] 24)).alloc (.cells #[.int .i64 0, .slice none 0 0] 24))) := hidR ⟨a1.heap (hAl _ a1.lt), atu_new _ (w.heap.size + 1) 0 (.slice none 0 0) 24 (by simp)⟩
  have HB := hidR (keepb q2 q1)
  obtain ⟨t0, t1, -, -⟩ := HT.out.1
  have hsz : ((w.alloc (.cells #[.int .i64 F, .slice ao l.length c] 24)).alloc (.cells #[.int .i64 0, .slice none 0 0] 24)).heap.size = w.heap.size + 2 := by simp
  clear q1 q2 a1
  go_enter Try.func6, Try.ntmps6
  go_wp2_with (at_make; apply stopHere5)
  refine (show wpList _ _ _ _ _ _ from ?_)
  refine wpList_make_full _ rfl _ _ 22 rfl (w.heap.size + 2) 50 i0 (.agg #[.int .u64 0, .int .u64 0, .int .i64 0, .int .i64 0]) 4 Try.underlying22 hi hz0 hz1 .i64 .i64 _ _ (l.length + 3) rfl rfl (by simp) (by simp) hby (by unfold maxLen; omega) (by rw [hsz]; exact Nat.le_refl _) ?_
  intro w2 ho2 hgrow
  rw [hsz] at ho2
  have HB2 := hidR (HB.out.grown hgrow HB.out.size (fun z hz => by cases hz))
  have HT2 := hidR (HT.out.heap (fun z hz => hgrow.block z (by rw [hsz]; exact hz) (fun e => by cases e)))
  have HO2 := hidR ho2
  clear ho2 hgrow hby HT HB t0 t1
  rw [hsz]
  obtain ⟨t0, t1, -, -⟩ := HT2.out.1
  have hcp : ∀ ad, ao = some ad → ∀ j u, (rowR l)[j]? = some u → w2.cell? (ad.add j) = some u := by
    intro ad e j u hj
    rcases HV.out with h | ⟨b, off, e', hc⟩
    · rw [h] at hj; simp [rowR] at hj
    · rw [e'] at e
      cases e
      rw [addA]
      exact keepc HB2.out (hc j u hj)
  have hcn : ao = none → rowR l = [] := by
    intro e
    rcases HV.out with h | ⟨b, off, e', hc⟩
    · rw [h]; rfl
    · rw [e'] at e; cases e
  have HCP := hidR hcp
  have HCN := hidR hcn
  clear hcp hcn HV
  have HX : Hid (∀ (xs : List Value), xs.length = (l.length + 3) * 4 → (rowR l ++ xs.drop (rowR l).length) = rowR (l ++ mkR l.length 0) ++ xs.drop (rowR l).length ∧ (xs.drop (rowR l).length).length = 12) := hidR (by
    intro xs hx
    refine ⟨by simp [mkR], ?_⟩
    rw [List.length_drop, rowR_len5, hx]
    omega)
  go_wp2_with (first | (refine wpList_copy_any5 rfl (.tmp 10) (.tmp 12) 22 22 rfl 50 i0 4 Try.underlying22 hi hz1 (w.heap.size + 2) (w.heap.size + 2) (l.length + 3) (l.length + 3) _ rfl HO2.out ao l.length c rfl (by omega) (rowR l) (rowR_len5 l) HCN.out HCP.out (rowR_cell5 l) ?_; intro w3 ho3 hgrow3; have HO3 := hidR ho3; have HB3 := hidR (HB2.out.grown hgrow3 HB2.out.size (fun z hz => by cases hz; omega)); have HT3 := hidR (HT2.out.heap (fun z hz => hgrow3.block z (by have := HO2.out.lt (w.heap.size + 2) rfl; omega) (fun e => by cases e; omega))); clear ho3 hgrow3 t0 t1; obtain ⟨t0, t1, -, -⟩ := HT3.out.1))
  obtain ⟨q1, q2⟩ := HX.out _ HO2.out.1
  rw [q1] at HO3
  revert q2
  generalize (List.drop (rowR l).length _) = rs0 at HO3 ⊢
  intro q2
  clear q1 HX HO2 HB2 HCP HCN HT2 t0 t1 hsz
  go_loopw [4] (fun i wr => ∃ j : Nat, j ≤ 3 ∧ i = .int .i64 ((l.length + j : Nat) : Int) ∧ ∃ rs : List Value, rs.length = (3 - j) * 4 ∧ Hid (wr.ownsRow (w.heap.size + 2) 50 4 (.slice (some ⟨w.heap.size + 2, 0, none⟩) (l.length + 3) (l.length + 3)) (l.length + 3) (rowR (l ++ mkR l.length j) ++ rs)) ∧ Hid (LnT w F (.slice ao l.length c) wr) ∧ Hid (Below w.heap.size w wr)) (fun i _ => (l.length + 3) - (intOf i).toNat)
  case atStart => exact ⟨0, by omega, by simp, rs0, by omega, HO3, HT3, HB3⟩
  case round =>
    clear HO3 HB3 HT3
    obtain ⟨j, hj, rfl, rs, hrs, HO, HT, HB⟩ := hrel
    have e1 : ((l.length + j : Nat) : Int) = (l.length : Int) + (j : Int) := by omega
    rw [e1]
    by_cases hlt : j < 3
    · have i1 : (l.length : Int) + (j : Int) < (l.length : Int) + 3 := by omega
      have i2 : (0 : Int) ≤ (l.length : Int) + (j : Int) := by omega
      have i3 : (j : Int) < 3 := by omega
      have mk : IntKind.i64.wrap ((l.length : Int) + (j : Int) + 1) = (l.length : Int) + (j : Int) + 1 := by rw [IntKind.wrap_i64]; omega
      have ms : IntKind.i64.wrap (-7 - ((l.length : Int) + (j : Int))) = -7 - ((l.length : Int) + (j : Int)) := by rw [IntKind.wrap_i64]; omega
      have ea : ((l.length : Int) + (j : Int)).toNat = l.length + j := by omega
      obtain ⟨⟨u0, z0⟩, s0⟩ := own_cell6 HO.out ((l.length + j) * 4) (by omega)
      obtain ⟨⟨u1, z1⟩, s1⟩ := own_cell6 HO.out ((l.length + j) * 4 + 1) (by omega)
      obtain ⟨⟨u2, z2⟩, s2⟩ := own_cell6 HO.out ((l.length + j) * 4 + 2) (by omega)
      obtain ⟨⟨u3, z3⟩, s3⟩ := own_cell6 HO.out ((l.length + j) * 4 + 3) (by omega)
      generalize hmm : -7 - ((l.length : Int) + (j : Int)) = mm at *
      go_wp2
      go_roundw
      case rel =>
        have t1 := ((((HO.out.stored ((l.length + j) * 4) (.int .u64 0)).1.stored ((l.length + j) * 4 + 1) (.int .u64 0)).1.stored ((l.length + j) * 4 + 2) (.int .i64 0)).1.stored ((l.length + j) * 4 + 3) (.int .i64 mm)).1
        rw [set4L _ rs ((l.length + j) * 4) (by rw [rowR_len5, List.length_append, mkR_len]) _ _ _ _ (by omega)] at t1
        refine ⟨j + 1, by omega, by simp; omega, rs.drop 4, by rw [List.length_drop, hrs]; omega, ?_, hidR (HT.out.heap (fun z hz => by rw [hSet _ (by omega), hSet _ (by omega), hSet _ (by omega), hSet _ (by omega)])), hidR ((((HB.out.setCell (p := ⟨w.heap.size + 2, _, none⟩) (by simp) _).setCell (p := ⟨w.heap.size + 2, _, none⟩) (by simp) _).setCell (p := ⟨w.heap.size + 2, _, none⟩) (by simp) _).setCell (p := ⟨w.heap.size + 2, _, none⟩) (by simp) _)⟩
        show World.ownsRow _ _ _ _ _ _ _
        rw [mkR_succ, hmm, ← List.append_assoc, rowR_one5, hI_zero, lI_zero, List.append_assoc]
        exact t1
      case measure => simp [intOf]; omega
    · obtain rfl : j = 3 := by omega
      have hr0 : rs = [] := List.eq_nil_of_length_eq_zero (by omega)
      subst hr0
      rw [List.append_nil] at HO
      have i1 : ¬ (l.length : Int) + ((3 : Nat) : Int) < (l.length : Int) + 3 := by omega
      have i2 : (l.length : Int) ≤ (l.length : Int) + 3 := by omega
      have i3 : l.length ≤ l.length + 3 := by omega
      have HC : Hid ((fun W => LnT w F (.slice ao l.length c) W ∧ W.ownsRow (w.heap.size + 2) 50 4 (.slice (some ⟨w.heap.size + 2, 0, none⟩) (l.length + 3) (l.length + 3)) (l.length + 3) (rowR (l ++ mkR l.length 3)) ∧ Below w.heap.size w W) wr) := hidR ⟨HT.out, HO.out, HB.out⟩
      clear HO HT HB
      go_wp2_with fail
      refine qp_region2 8 (qpOk 8 8 (by decide) (fun N => by kernel_rfl) (by kernel_rfl) (by kernel_rfl) (by kernel_rfl) (by kernel_rfl)) (C := fun W => LnT w F (.slice ao l.length c) W ∧ W.ownsRow (w.heap.size + 2) 50 4 (.slice (some ⟨w.heap.size + 2, 0, none⟩) (l.length + 3) (l.length + 3)) (l.length + 3) (rowR (l ++ mkR l.length 3)) ∧ Below w.heap.size w W) [some 29, some 30, some 31, some 32, some 33, some 34, some 35, some 36] [.pointer (some ⟨w.heap.size, 0, none⟩), .int .i64 F, .slice (some ⟨w.heap.size + 2, 0, none⟩) (l.length + 3) (l.length + 3), .pointer (some ⟨w.heap.size, 1, none⟩), .slice ao l.length c, .int .i64 (l.length : Int), .slice (some ⟨w.heap.size + 2, 0, none⟩) l.length (l.length + 3), .agg #[.int .i64 F, .slice (some ⟨w.heap.size + 2, 0, none⟩) l.length (l.length + 3)]] (by kernel_rfl) ⟨HC.out.1.heap (fun _ _ => rfl), own_heap HC.out.2.1 (fun _ _ => rfl), below_drewN HC.out.2.2 1⟩ ?walk ?fin
      case walk =>
        clear HC
        dsimp only [List.take]
        refine q_run (v := .pointer (some ⟨w.heap.size, 0, none⟩)) (by rfl) ?_ ?_
        · (intro w1 hC; obtain ⟨⟨⟨t0, t1, -, -⟩, -⟩, -, -⟩ := hC; go_simp; first | done | (simp; done) | (simp [*]; done) | omega | (simp; omega) | (rw [IntKind.wrap_i64]; omega) | (intro hx; omega) | rfl)
        simp only [Act.put, List.setIfInBounds_toArray, List.set_cons_zero, List.set_cons_succ]
        refine q_run (v := .int .i64 F) (by rfl) ?_ ?_
        · (intro w1 hC; obtain ⟨⟨⟨t0, t1, -, -⟩, -⟩, -, -⟩ := hC; go_simp; first | done | (simp; done) | (simp [*]; done) | omega | (simp; omega) | (rw [IntKind.wrap_i64]; omega) | (intro hx; omega) | rfl)
        simp only [Act.put, List.setIfInBounds_toArray, List.set_cons_zero, List.set_cons_succ]
        refine q_run (v := .slice (some ⟨w.heap.size + 2, 0, none⟩) (l.length + 3) (l.length + 3)) (by rfl) ?_ ?_
        · (intro w1 hC; obtain ⟨⟨⟨t0, t1, -, -⟩, -⟩, -, -⟩ := hC; go_simp; first | done | (simp; done) | (simp [*]; done) | omega | (simp; omega) | (rw [IntKind.wrap_i64]; omega) | (intro hx; omega) | rfl)
        simp only [Act.put, List.setIfInBounds_toArray, List.set_cons_zero, List.set_cons_succ]
        refine q_run (v := .pointer (some ⟨w.heap.size, 1, none⟩)) (by rfl) ?_ ?_
        · (intro w1 hC; obtain ⟨⟨⟨t0, t1, -, -⟩, -⟩, -, -⟩ := hC; go_simp; first | done | (simp; done) | (simp [*]; done) | omega | (simp; omega) | (rw [IntKind.wrap_i64]; omega) | (intro hx; omega) | rfl)
        simp only [Act.put, List.setIfInBounds_toArray, List.set_cons_zero, List.set_cons_succ]
        refine q_run (v := .slice ao l.length c) (by rfl) ?_ ?_
        · (intro w1 hC; obtain ⟨⟨⟨t0, t1, -, -⟩, -⟩, -, -⟩ := hC; go_simp; first | done | (simp; done) | (simp [*]; done) | omega | (simp; omega) | (rw [IntKind.wrap_i64]; omega) | (intro hx; omega) | rfl)
        simp only [Act.put, List.setIfInBounds_toArray, List.set_cons_zero, List.set_cons_succ]
        refine q_run (v := .int .i64 (l.length : Int)) (by rfl) ?_ ?_
        · (intro w1 hC; obtain ⟨⟨⟨t0, t1, -, -⟩, -⟩, -, -⟩ := hC; go_simp; first | done | (simp; done) | (simp [*]; done) | omega | (simp; omega) | (rw [IntKind.wrap_i64]; omega) | (intro hx; omega) | rfl)
        simp only [Act.put, List.setIfInBounds_toArray, List.set_cons_zero, List.set_cons_succ]
        refine q_run (v := .slice (some ⟨w.heap.size + 2, 0, none⟩) l.length (l.length + 3)) (by rfl) ?_ ?_
        · (intro w1 hC; obtain ⟨⟨⟨t0, t1, -, -⟩, -⟩, -, -⟩ := hC; go_simp; first | done | (simp; done) | (simp [*]; done) | omega | (simp; omega) | (rw [IntKind.wrap_i64]; omega) | (intro hx; omega) | rfl)
        simp only [Act.put, List.setIfInBounds_toArray, List.set_cons_zero, List.set_cons_succ]
        refine q_run (v := .agg #[.int .i64 F, .slice (some ⟨w.heap.size + 2, 0, none⟩) l.length (l.length + 3)]) (by rfl) ?_ ?_
        · (intro w1 hC; obtain ⟨⟨⟨t0, t1, -, -⟩, -⟩, -, -⟩ := hC; go_simp; first | done | (simp; done) | (simp [*]; done) | omega | (simp; omega) | (rw [IntKind.wrap_i64]; omega) | (intro hx; omega) | rfl)
        simp only [Act.put, List.setIfInBounds_toArray, List.set_cons_zero, List.set_cons_succ]
        refine wpQuiet_nil ?_
        simp only [putAll, Act.put, List.setIfInBounds_toArray, List.set_cons_zero, List.set_cons_succ]
      case fin =>
        intro W hC
        simp only [putAll, Act.put, List.setIfInBounds_toArray, List.set_cons_zero, List.set_cons_succ]
        dsimp only [List.drop]
        clear HC
        obtain ⟨hT, hO, hB⟩ := hC
        obtain ⟨r0, r1, r2, r3⟩ := hT.2
        obtain ⟨k0, k1, -, -⟩ := hT.2.set2 F (.slice (some ⟨w.heap.size + 2, 0, none⟩) l.length (l.length + 3))
        have HBs := hidR (bset2 (C := w.heap.size + 1) hB (by omega) (.int .i64 F) (.slice (some ⟨w.heap.size + 2, 0, none⟩) l.length (l.length + 3)))
        have HOs := hidR (own_wide (base' := w.heap.size) (own_heap (W' := (W.setCell ⟨w.heap.size + 1, 0, none⟩ (.int .i64 F)).setCell ⟨w.heap.size + 1, 1, none⟩ (.slice (some ⟨w.heap.size + 2, 0, none⟩) l.length (l.length + 3))) hO (fun z e => by
          have e : w.heap.size + 2 = z := by simpa [Value.ownBlock] using e
          rw [hSet _ (by omega), hSet _ (by omega)])) (by omega))
        clear hT hO hB
        go_wp2
        exact bodyPost_ret (v := .agg #[.int .i64 F, .slice (some ⟨w.heap.size + 2, 0, none⟩) l.length (l.length + 3)]) (by simp [results, Try.results6, go_sem, k0, k1]) rfl ⟨⟨w.heap.size + 2, rfl, HOs.out⟩, HBs.out⟩
end Go.Proofs.Ytmkjlcfoedglmaa
