/-
  Part 7 of the proof: 1 texts, one behind the other.
-/
import Derived.Test.YtofpbommhklooaaPart6
/-
  What the call of the grower's down does.
-/
namespace Go.Proofs.Ytofpbommhklooaa
open Go.RowKit
set_option linter.unusedSimpArgs false
set_option linter.unusedVariables false

/-- The words have grown, and the tree does not know it yet. -/
def GwW (w W : World) (base G B : Nat) (F : Int) (L : List Nd) (ws : List (BitVec 128)) (y : List Nat) (vn vw vy : Value) (g cap : Nat) (x : BitVec 128) (R : Nat) (o : Obj) : Prop := ∃ W0, GwV W0 base G B F L ws y vn vw vy ∧ W0.grownBy W vw.ownBlock ∧ W.ownsRow base 27 2 (.slice (some ⟨g, 0, none⟩) (ws.length + 1) cap) (ws.length + 1) (rowWd (ws ++ [x])) ∧ (vw.ownBlock = some g ∨ W0.heap.size ≤ g) ∧ B3 w W0 base G B vn vw vy ∧ W0.heap[R]? = some o ∧ vw.ownBlock ≠ some R
section
variable {w W : World} {base G B g cap R : Nat} {F : Int} {L : List Nd} {ws : List (BitVec 128)} {y : List Nat} {vn vw vy : Value} {x : BitVec 128} {o : Obj}
theorem GwW.c (k : GwW w W base G B F L ws y vn vw vy g cap x R o) : GwC W G B F vn vw vy := by
  obtain ⟨W0, k, h, -⟩ := k
  exact k.c.heap (h.block _ k.ltG (fun e => k.wG e.symm)) (h.block _ k.ltB (fun e => k.wB e.symm))
theorem GwW.r (k : GwW w W base G B F L ws y vn vw vy g cap x R o) : W.heap[R]? = some o := by
  obtain ⟨W0, k, h, -, -, -, hR, hn⟩ := k
  have hl : R < W0.heap.size := by
    apply Classical.byContradiction; intro q
    rw [Array.getElem?_eq_none (by omega)] at hR; cases hR
  rw [h.block R hl (fun e => hn e.symm)]; exact hR
theorem GwW.fin (k : GwW w W base G B F L ws y vn vw vy g cap x R o) (hRB : R ≠ B) : GwV (W.setCell ⟨B, 2, none⟩ (.slice (some ⟨g, 0, none⟩) (ws.length + 1) cap)) base G B F L (ws ++ [x]) y vn (.slice (some ⟨g, 0, none⟩) (ws.length + 1) cap) vy ∧ B3 w (W.setCell ⟨B, 2, none⟩ (.slice (some ⟨g, 0, none⟩) (ws.length + 1) cap)) base G B vn vw vy ∧ (vw.ownBlock = some g ∨ w.heap.size ≤ g) ∧ (W.setCell ⟨B, 2, none⟩ (.slice (some ⟨g, 0, none⟩) (ws.length + 1) cap)).heap[R]? = some o := by
  have hr := k.r
  obtain ⟨W0, k, h, ho, hg, hb, -, -⟩ := k
  exact ⟨k.wrd h ho hg, (hb.grown h (hb.1.grown h k.base_le (fun z e => (k.ow.lt z e).1)) (fun z e _ => .inr (.inl e))).set 2 _ k.bB (fun _ => .inr (.inl rfl)), hg.imp id (fun q => Nat.le_trans hb.2.1 q), by rw [setB _ hRB]; exact hr⟩
end
theorem Try.infoW8 : (Try.prog.info? 27).map (fun i => (i.zero, i.size, i.bytes)) = some (some (.agg #[.int .u64 0, .int .u64 0]), 2, 16) := by kernel_rfl
theorem news2 {W : World} {N : Nat} {a b : Value} (h : W.cell? ⟨N, 0, none⟩ = some a ∧ W.cell? ⟨N, 1, none⟩ = some b) : ∀ j u, [a, b][j]? = some u → W.cell? ((⟨N, 0, none⟩ : Addr).add j) = some u := by
  intro j u hj
  rw [addA, Nat.zero_add]
  match j, hj with
  | 0, hj => simp at hj; subst hj; exact h.1
  | 1, hj => simp at hj; subst hj; exact h.2
theorem hiS_yes {x : BitVec 128} {L : List Nd} {y : List Nat} {q p : Nat} (h : bitZ x (q : Int) = 1) (hq : y.length = q + 1) (hpe : p = y.getD q 0) (hp : p < L.length) (hl : L.length ≤ 1000000000) : hiS x L y = L.set p { L[p] with high := (L.length : Int) } := by
  unfold hiS
  have e : IntKind.i32.wrap (L.length : Int) = L.length := by rw [IntKind.wrap_i32]; omega
  rw [e]
  rw [show (y.length : Int) - 1 = (q : Int) by omega, if_pos h, show y.length - 1 = q by omega, ← hpe, nd8_in hp]
theorem hiS_no {x : BitVec 128} {L : List Nd} {y : List Nat} {q : Nat} (h : ¬ bitZ x (q : Int) = 1) (hq : y.length = q + 1) : hiS x L y = L := by
  unfold hiS
  rw [show (y.length : Int) - 1 = (q : Int) by omega, if_neg h]
theorem lay8 (base G B : Nat) (F : Int) (L : List Nd) (ws : List (BitVec 128)) (x : BitVec 128) (y : List Nat) (vn vw vy : Value) (w : World) (k : GwV w base G B F (hiS x L y) (ws ++ [x]) y vn vw vy) (hL : L.length ≤ 1000000000) (hw1 : ws.length + 1 ≤ 1000000000) (hy : y.length ≤ 255) :
    Calls Try.prog 52 #[.pointer (some ⟨G, 0, none⟩)] w fun e w' => e = .returned (.tuple #[]) ∧ (∃ vn' vy', GwV w' base G B F (hiS x L y ++ [⟨(ws.length : Int), 0, 0, 0, (y.length : Int), 0⟩]) (ws ++ [x]) (y ++ [L.length]) vn' vw vy' ∧ Nb w vn vn' ∧ Nb w vy vy') ∧ Bw w w' base G B vn vy := by
  have := lay_any base G B F (hiS x L y) (ws ++ [x]) y vn vw vy w k (by rw [hiS_len]; exact hL) (by simp) (by simpa using hw1) hy
  rw [hiS_len, show (((ws ++ [x]).length : Nat) : Int) - 1 = (ws.length : Int) by simp] at this
  exact this
def lenV8 : Option Value → Nat
  | some (.slice _ n _) => n
  | _ => 0
set_option maxRecDepth 20000 in
set_option maxHeartbeats 8000000 in
theorem down_any (base G B : Nat) (F : Int) (L : List Nd) (ws : List (BitVec 128)) (y : List Nat) (vn vw vy : Value) (x : BitVec 128) (n : Nat) (h : Int) (w : World) (k : GwV w base G B F L ws y vn vw vy) (hy : ∀ i ∈ y, i < L.length) (hy1 : 1 ≤ y.length) (hyn : y.length ≤ n + 1) (hn : n ≤ 128) (hL : L.length ≤ 999999000) (hw : ws.length ≤ 999999000) :
    Calls Try.prog 55 #[.pointer (some ⟨G, 0, none⟩), .agg #[.int .u64 (hI x), .int .u64 (lI x), .int .i64 (n : Int), .int .i64 h]] w fun e w' => e = .returned (.tuple #[]) ∧ (∃ vn' vw' vy', GwV w' base G B F (dnW (ws.length : Int) x n h L y).1 (ws ++ [x]) (dnW (ws.length : Int) x n h L y).2 vn' vw' vy' ∧ Nb w vn vn' ∧ Nb w vw vw' ∧ Nb w vy vy') ∧ B3 w w' base G B vn vw vy := by
  obtain ⟨i0, hi, hz0, hz1, hz2⟩ := info_of Try.infoW8
  obtain ⟨gn, cn, rfl⟩ : ∃ gn cn, vn = .slice (some ⟨gn, 0, none⟩) L.length cn := by
    have hp : 0 < L.length := by
      cases y with
      | nil => simp at hy1
      | cons a r => have := hy a (by simp); omega
    obtain ⟨g, c, e, -, -⟩ := k.on.form (by omega)
    exact ⟨g, c, e⟩
  obtain ⟨gy, cy, rfl⟩ : ∃ gy cy, vy = .slice (some ⟨gy, 0, none⟩) y.length cy := by
    obtain ⟨g, c, e, -, -⟩ := k.oy.form (by omega)
    exact ⟨g, c, e⟩
  have q0 := bl1 w (.cells #[.int .u64 (hI x), .int .u64 (lI x), .int .i64 (n : Int), .int .i64 h] 47)
  have hRo : (w.alloc (.cells #[.int .u64 (hI x), .int .u64 (lI x), .int .i64 (n : Int), .int .i64 h] 47)).heap[w.heap.size]? = some (.cells #[.int .u64 (hI x), .int .u64 (lI x), .int .i64 (n : Int), .int .i64 h] 47) := by
    show (w.heap.push _)[w.heap.size]? = _
    simp
  have HQ := hid8 (And.intro (And.intro (k.below q0) ((B3.refl (G := G) (B := B) (vn := .slice (some ⟨gn, 0, none⟩) L.length cn) (vw := vw) (vy := .slice (some ⟨gy, 0, none⟩) y.length cy) k.base_le).below q0 k.base_le)) hRo)
  have hRG : w.heap.size ≠ G := by have := k.ltG; omega
  have hRB : w.heap.size ≠ B := by have := k.ltB; omega
  have hvw : vw.ownBlock ≠ some w.heap.size := fun e => by have := (k.ow.lt _ e).2; omega
  have a0 := (k.below q0).g0
  clear k q0 hRo
  go_enter Try.func55, Try.ntmps55
  go_wp2_with fail
  clear a0
  refine ap_region 10 8 9 (alOk (qpOk 10 8 (by decide) (fun N => by kernel_rfl) (by kernel_rfl) (by kernel_rfl) (by kernel_rfl) (by kernel_rfl)) (by decide) rfl rfl (by kernel_rfl)) (alOk (qpOk 10 9 (by decide) (fun N => by kernel_rfl) (by kernel_rfl) (by kernel_rfl) (by kernel_rfl) (by kernel_rfl)) (by decide) rfl rfl (by kernel_rfl)) (by decide) (by kernel_rfl) (D := fun W => (GwV W base G B F L ws y (.slice (some ⟨gn, 0, none⟩) L.length cn) vw (.slice (some ⟨gy, 0, none⟩) y.length cy) ∧ B3 w W base G B (.slice (some ⟨gn, 0, none⟩) L.length cn) vw (.slice (some ⟨gy, 0, none⟩) y.length cy)) ∧ W.heap[w.heap.size]? = some (.cells #[.int .u64 (hI x), .int .u64 (lI x), .int .i64 (n : Int), .int .i64 h] 47)) (C1 := fun N W => ((GwV W base G B F L ws y (.slice (some ⟨gn, 0, none⟩) L.length cn) vw (.slice (some ⟨gy, 0, none⟩) y.length cy) ∧ B3 w W base G B (.slice (some ⟨gn, 0, none⟩) L.length cn) vw (.slice (some ⟨gy, 0, none⟩) y.length cy)) ∧ W.heap[w.heap.size]? = some (.cells #[.int .u64 (hI x), .int .u64 (lI x), .int .i64 (n : Int), .int .i64 h] 47)) ∧ (W.cell? ⟨N, 0, none⟩ = some (.int .u64 (hI x)) ∧ W.cell? ⟨N, 1, none⟩ = some (.int .u64 (lI x)))) (C2 := fun N M W => GwW w W base G B F L ws y (.slice (some ⟨gn, 0, none⟩) L.length cn) vw (.slice (some ⟨gy, 0, none⟩) y.length cy) (decN M).1 (decN M).2 x w.heap.size (.cells #[.int .u64 (hI x), .int .u64 (lI x), .int .i64 (n : Int), .int .i64 h] 47)) [some 11, some 12, some 13, some 14, some 15, some 16, some 17, some 18, some 19, some 20] (fun N M => [.pointer (some ⟨B, 0, none⟩), .pointer (some ⟨B, 0, none⟩), .pointer (some ⟨B, 0, none⟩), .pointer (some ⟨B, 2, none⟩), vw, .pointer (some ⟨w.heap.size, 0, none⟩), .pointer (some ⟨w.heap.size, 0, none⟩), .agg #[.int .u64 (hI x), .int .u64 (lI x)], .slice (some ⟨N, 0, none⟩) 1 1, valG (ws.length + 1) M]) (fun N => .slice (some ⟨N, 0, none⟩) 1 1) (fun M => valG (ws.length + 1) M) 19 20 [18] [15, 19] (by kernel_rfl) (fun N M => by kernel_rfl) rfl rfl ?hA ?hA1 ?hA2 (by kernel_rfl) (by kernel_rfl) (by decide) (by decide) ?h1 ?h2 (⟨⟨HQ.out.1.1.below (below_drewN (Below.refl _ _) 1), HQ.out.1.2.below (below_drewN (Below.refl _ _) 1) HQ.out.1.1.base_le⟩, HQ.out.2⟩) ?walk ?fin
  case hA => intro N M; simp only [putAll, Act.put, List.setIfInBounds_toArray, List.set_cons_zero, List.set_cons_succ]; try rfl
  case hA1 => intro N M; simp only [putAll, Act.put, List.setIfInBounds_toArray, List.set_cons_zero, List.set_cons_succ]; try rfl
  case hA2 => intro N M; simp only [putAll, Act.put, List.setIfInBounds_toArray, List.set_cons_zero, List.set_cons_succ]; try rfl
  case h1 =>
    intro W a' hC hr K Q' hK
    have e18 : a'.tmps[18]? = some (.agg #[.int .u64 (hI x), .int .u64 (lI x)]) := (hr 18 (by simp)).trans (by simp only [putAll, Act.put, List.setIfInBounds_toArray, List.set_cons_zero, List.set_cons_succ]; rfl)
    have hb1 := bl1 W (.cells #[.int .u64 (hI x), .int .u64 (lI x)] 27)
    have hl1 : w.heap.size < W.heap.size := by
      apply Classical.byContradiction; intro q
      have h2 := hC.2
      rw [Array.getElem?_eq_none (by omega)] at h2; cases h2
    have hK' := hK W.heap.size (W.alloc (.cells #[.int .u64 (hI x), .int .u64 (lI x)] 27)) ⟨⟨⟨hC.1.1.below hb1, hC.1.2.below hb1 hC.1.1.base_le⟩, by rw [hb1.block _ hl1]; exact hC.2⟩, by simp [go_sem], by simp [go_sem]⟩
    clear hr
    unfold Oper.wp
    simp [execOp, e18, go_sem, Oper.upon]
    exact hK'
  case h2 =>
    intro N W a' hC hr K Q' hK
    have e15 : a'.tmps[15]? = some (vw) := (hr 15 (by simp)).trans (by simp only [putAll, Act.put, List.setIfInBounds_toArray, List.set_cons_zero, List.set_cons_succ]; rfl)
    have e19 : a'.tmps[19]? = some (.slice (some ⟨N, 0, none⟩) 1 1) := (hr 19 (by simp)).trans (by simp only [putAll, Act.put, List.setIfInBounds_toArray, List.set_cons_zero, List.set_cons_succ]; rfl)
    refine wp_append_lies W (.tmp 15) (.tmp 19) 81 rfl base 27 i0 (.agg #[.int .u64 0, .int .u64 0]) 2 16 Try.underlying81 hi hz0 hz1 hz2 rfl (by decide) vw ws.length (rowWd ws) (by simp [Act.eval, e15]) hC.1.1.1.ow ⟨N, 0, none⟩ 1 1 [.int .u64 (hI x), .int .u64 (lI x)] (by simp [Act.eval, e19]) rfl (news2 hC.2) (by intro u hu; simp at hu; rcases hu with rfl | rfl <;> rfl) (by decide) (by unfold maxLen; omega) (by omega) hC.1.1.1.base_le _ rfl ?_
    intro g4 cap4 w4 hown4 hgrow hat hlt4
    obtain ⟨M, hM⟩ := decN_ex g4 cap4
    have eM : (.slice (some ⟨g4, 0, none⟩) (ws.length + 1) cap4 : Value) = valG (ws.length + 1) M := by rw [valG, hM]
    rw [eM]
    refine hK M w4 ⟨W, hC.1.1.1, hgrow, ?_, ?_, hC.1.1.2, hC.1.2, hvw⟩
    · rw [hM, rowWd_app]; exact hown4
    · rw [hM]; rcases hat with h | h
      · exact .inl h
      · exact .inr (by rw [h]; exact Nat.le_refl _)
  case walk =>
    intro N M X hX
    have hXD : ∀ W, X W → GwC W G B F (.slice (some ⟨gn, 0, none⟩) L.length cn) vw (.slice (some ⟨gy, 0, none⟩) y.length cy) ∧ W.heap[w.heap.size]? = some (.cells #[.int .u64 (hI x), .int .u64 (lI x), .int .i64 (n : Int), .int .i64 h] 47) := by
      rcases hX with rfl | rfl | rfl
      · exact fun W h => ⟨h.1.1.c, h.2⟩
      · exact fun W h => ⟨h.1.1.1.c, h.1.2⟩
      · exact fun W h => ⟨h.c, h.r⟩
    clear hX HQ
    dsimp only [rep, List.take, List.modify, List.modifyTailIdx, List.modifyTailIdx.go, List.modifyHead]
    refine q_run (v := .pointer (some ⟨B, 0, none⟩)) (by rfl) ?_ ?_
    · (intro w1 hC; obtain ⟨⟨a0, a1, -, a3, a4, a5, -, -⟩, hR⟩ := hXD w1 hC; have r0 := at_block hR 0 (.int .u64 (hI x)) rfl; have r1 := at_block hR 1 (.int .u64 (lI x)) rfl; clear hC hXD hR; go_simp; first | done | (simp; done) | (simp [*]; done) | omega | (simp; omega) | (rw [IntKind.wrap_i64]; omega) | (intro hx; omega) | rfl)
    simp only [Act.put, List.setIfInBounds_toArray, List.set_cons_zero, List.set_cons_succ]
    refine q_run (v := .pointer (some ⟨B, 0, none⟩)) (by rfl) ?_ ?_
    · (intro w1 hC; obtain ⟨⟨a0, a1, -, a3, a4, a5, -, -⟩, hR⟩ := hXD w1 hC; have r0 := at_block hR 0 (.int .u64 (hI x)) rfl; have r1 := at_block hR 1 (.int .u64 (lI x)) rfl; clear hC hXD hR; go_simp; first | done | (simp; done) | (simp [*]; done) | omega | (simp; omega) | (rw [IntKind.wrap_i64]; omega) | (intro hx; omega) | rfl)
    simp only [Act.put, List.setIfInBounds_toArray, List.set_cons_zero, List.set_cons_succ]
    refine q_run (v := .pointer (some ⟨B, 0, none⟩)) (by rfl) ?_ ?_
    · (intro w1 hC; obtain ⟨⟨a0, a1, -, a3, a4, a5, -, -⟩, hR⟩ := hXD w1 hC; have r0 := at_block hR 0 (.int .u64 (hI x)) rfl; have r1 := at_block hR 1 (.int .u64 (lI x)) rfl; clear hC hXD hR; go_simp; first | done | (simp; done) | (simp [*]; done) | omega | (simp; omega) | (rw [IntKind.wrap_i64]; omega) | (intro hx; omega) | rfl)
    simp only [Act.put, List.setIfInBounds_toArray, List.set_cons_zero, List.set_cons_succ]
    refine q_run (v := .pointer (some ⟨B, 2, none⟩)) (by rfl) ?_ ?_
    · (intro w1 hC; obtain ⟨⟨a0, a1, -, a3, a4, a5, -, -⟩, hR⟩ := hXD w1 hC; have r0 := at_block hR 0 (.int .u64 (hI x)) rfl; have r1 := at_block hR 1 (.int .u64 (lI x)) rfl; clear hC hXD hR; go_simp; first | done | (simp; done) | (simp [*]; done) | omega | (simp; omega) | (rw [IntKind.wrap_i64]; omega) | (intro hx; omega) | rfl)
    simp only [Act.put, List.setIfInBounds_toArray, List.set_cons_zero, List.set_cons_succ]
    refine q_run (v := vw) (by rfl) ?_ ?_
    · (intro w1 hC; obtain ⟨⟨a0, a1, -, a3, a4, a5, -, -⟩, hR⟩ := hXD w1 hC; have r0 := at_block hR 0 (.int .u64 (hI x)) rfl; have r1 := at_block hR 1 (.int .u64 (lI x)) rfl; clear hC hXD hR; go_simp; first | done | (simp; done) | (simp [*]; done) | omega | (simp; omega) | (rw [IntKind.wrap_i64]; omega) | (intro hx; omega) | rfl)
    simp only [Act.put, List.setIfInBounds_toArray, List.set_cons_zero, List.set_cons_succ]
    refine q_run (v := .pointer (some ⟨w.heap.size, 0, none⟩)) (by rfl) ?_ ?_
    · (intro w1 hC; obtain ⟨⟨a0, a1, -, a3, a4, a5, -, -⟩, hR⟩ := hXD w1 hC; have r0 := at_block hR 0 (.int .u64 (hI x)) rfl; have r1 := at_block hR 1 (.int .u64 (lI x)) rfl; clear hC hXD hR; go_simp; first | done | (simp; done) | (simp [*]; done) | omega | (simp; omega) | (rw [IntKind.wrap_i64]; omega) | (intro hx; omega) | rfl)
    simp only [Act.put, List.setIfInBounds_toArray, List.set_cons_zero, List.set_cons_succ]
    refine q_run (v := .pointer (some ⟨w.heap.size, 0, none⟩)) (by rfl) ?_ ?_
    · (intro w1 hC; obtain ⟨⟨a0, a1, -, a3, a4, a5, -, -⟩, hR⟩ := hXD w1 hC; have r0 := at_block hR 0 (.int .u64 (hI x)) rfl; have r1 := at_block hR 1 (.int .u64 (lI x)) rfl; clear hC hXD hR; go_simp; first | done | (simp; done) | (simp [*]; done) | omega | (simp; omega) | (rw [IntKind.wrap_i64]; omega) | (intro hx; omega) | rfl)
    simp only [Act.put, List.setIfInBounds_toArray, List.set_cons_zero, List.set_cons_succ]
    refine q_run (v := .agg #[.int .u64 (hI x), .int .u64 (lI x)]) (by rfl) ?_ ?_
    · (intro w1 hC; obtain ⟨⟨a0, a1, -, a3, a4, a5, -, -⟩, hR⟩ := hXD w1 hC; have r0 := at_block hR 0 (.int .u64 (hI x)) rfl; have r1 := at_block hR 1 (.int .u64 (lI x)) rfl; clear hC hXD hR; go_simp; first | done | (simp; done) | (simp [*]; done) | omega | (simp; omega) | (rw [IntKind.wrap_i64]; omega) | (intro hx; omega) | rfl)
    simp only [Act.put, List.setIfInBounds_toArray, List.set_cons_zero, List.set_cons_succ]
    refine q_run (v := .slice (some ⟨N, 0, none⟩) 1 1) (by rfl) ?_ ?_
    · (intro w1 hC; obtain ⟨⟨a0, a1, -, a3, a4, a5, -, -⟩, hR⟩ := hXD w1 hC; have r0 := at_block hR 0 (.int .u64 (hI x)) rfl; have r1 := at_block hR 1 (.int .u64 (lI x)) rfl; clear hC hXD hR; go_simp; first | done | (simp; done) | (simp [*]; done) | omega | (simp; omega) | (rw [IntKind.wrap_i64]; omega) | (intro hx; omega) | rfl)
    simp only [Act.put, List.setIfInBounds_toArray, List.set_cons_zero, List.set_cons_succ]
    refine q_run (v := valG (ws.length + 1) M) (by rfl) ?_ ?_
    · (intro w1 hC; obtain ⟨⟨a0, a1, -, a3, a4, a5, -, -⟩, hR⟩ := hXD w1 hC; have r0 := at_block hR 0 (.int .u64 (hI x)) rfl; have r1 := at_block hR 1 (.int .u64 (lI x)) rfl; clear hC hXD hR; go_simp; first | done | (simp; done) | (simp [*]; done) | omega | (simp; omega) | (rw [IntKind.wrap_i64]; omega) | (intro hx; omega) | rfl)
    simp only [Act.put, List.setIfInBounds_toArray, List.set_cons_zero, List.set_cons_succ]
    refine wpQuiet_nil ?_
    simp only [putAll, Act.put, List.setIfInBounds_toArray, List.set_cons_zero, List.set_cons_succ]
  case fin =>
    intro N M W hC
    simp only [putAll, Act.put, List.setIfInBounds_toArray, List.set_cons_zero, List.set_cons_succ]
    dsimp only [List.drop]
    have HF := hid8 (hC.fin hRB)
    obtain ⟨a0, a1, -, a3, a4, a5, -, fB⟩ := hC.c
    clear hC HQ
    obtain ⟨g5, c5, hd⟩ : ∃ g5 c5, valG (ws.length + 1) M = .slice (some ⟨g5, 0, none⟩) (ws.length + 1) c5 ∧ g5 = (decN M).1 ∧ c5 = (decN M).2 := ⟨_, _, rfl, rfl, rfl⟩
    rw [← hd.2.1, ← hd.2.2] at HF
    rw [hd.1]
    clear hd
    go_wp2_with fail
    clear a0 a1 a3 a4 a5 fB
    revert HF
    generalize W.setCell ⟨B, 2, none⟩ (.slice (some ⟨g5, 0, none⟩) (ws.length + 1) c5) = W5
    intro HF
    go_loopw [5] (fun e wr => ∃ (L1 : List Nd) (y1 : List Nat) (f g1 c1 g2 c2 : Nat), y1.length + f = n + 1 ∧ L1.length + f ≤ 999999200 ∧ 1 ≤ y1.length ∧ Hid (∀ i ∈ y1, i < L1.length) ∧ Hid (dnS (ws.length : Int) x f (L1, y1) = dnS (ws.length : Int) x (n + 1 - y.length) (L, y)) ∧ Hid (GwV wr base G B F L1 (ws ++ [x]) y1 (.slice (some ⟨g1, 0, none⟩) L1.length c1) (.slice (some ⟨g5, 0, none⟩) (ws.length + 1) c5) (.slice (some ⟨g2, 0, none⟩) y1.length c2)) ∧ Hid (Nb w (.slice (some ⟨gn, 0, none⟩) L.length cn) (.slice (some ⟨g1, 0, none⟩) L1.length c1)) ∧ Hid (Nb w (.slice (some ⟨gy, 0, none⟩) y.length cy) (.slice (some ⟨g2, 0, none⟩) y1.length c2)) ∧ Hid (B3 w wr base G B (.slice (some ⟨gn, 0, none⟩) L.length cn) vw (.slice (some ⟨gy, 0, none⟩) y.length cy)) ∧ Hid (wr.heap[w.heap.size]? = some (.cells #[.int .u64 (hI x), .int .u64 (lI x), .int .i64 (n : Int), .int .i64 h] 47))) (fun _ wr => n + 1 - lenV8 (wr.cell? ⟨G, 1, none⟩))
    case atStart => exact ⟨L, y, n + 1 - y.length, gn, cn, gy, cy, by omega, by omega, hy1, hid8 hy, hid8 rfl, hid8 HF.out.1, hid8 (Nb.refl _ _), hid8 (Nb.refl _ _), hid8 HF.out.2.1, hid8 HF.out.2.2.2⟩
    case round =>
      have HW5 := hid8 HF.out.2.2.1
      clear HF hy hy1 hyn hL
      obtain ⟨L1, y1, f, g1, c1, g2, c2, hf, hL1, hn1, HY, HE, HK, HN1, HN2, HB, HR⟩ := hrel
      have a0 := HK.out.g0
      have a1 := HK.out.g1
      have a4 := HK.out.t1
      have r0 := at_block HR.out 0 (.int .u64 (hI x)) rfl
      have r1 := at_block HR.out 1 (.int .u64 (lI x)) rfl
      have r2 := at_block HR.out 2 (.int .i64 (n : Int)) rfl
      have r3 := at_block HR.out 3 (.int .i64 h) rfl
      by_cases hlt : (y1.length : Int) ≤ (n : Int)
      · obtain ⟨q, hq⟩ : ∃ q, y1.length = q + 1 := ⟨y1.length - 1, by omega⟩
        have w1 : (y1.length : Int) - 1 = (q : Int) := by omega
        have w2 : IntKind.i64.wrap (q : Int) = (q : Int) := by rw [IntKind.wrap_i64]; omega
        have Hq := hid8 hq
        have KB := fun W => bit_any x (q : Int) W
        have HM : Hid (n + 1 - (y1.length + 1) < n + 1 - lenV8 (wr.cell? ⟨G, 1, none⟩)) := by
          show _ < _
          rw [a1]; show n + 1 - (y1.length + 1) < n + 1 - y1.length; omega
        obtain ⟨f1, hf1⟩ : ∃ f1, f = f1 + 1 := ⟨f - 1, by omega⟩
        subst hf1
        have HLq := hid8 hL1
        have Hfq := hid8 hf
        clear hf hL1 hq
        go_wp2_with fail
        go_quiet (fail)
        go_wp2_with fail
        clear a0 a1 a4 r0 r1 r2 r3 w1 w2
        refine (KB _).mono ?_
        rintro e w2 ⟨rfl, hb⟩
        have hbb := keepb hb (below_drewN (Below.refl wr.heap.size wr) nq)
        have HK2 := hid8 (HK.out.below hbb)
        have HB2 := hid8 (HB.out.below hbb HK.out.base_le)
        have HR2 : Hid (w2.heap[w.heap.size]? = some (.cells #[.int .u64 (hI x), .int .u64 (lI x), .int .i64 (n : Int), .int .i64 h] 47)) := by
          show _ = _
          rw [hbb.block _ (by
            have h2 := HR.out
            apply Classical.byContradiction; intro z
            rw [Array.getElem?_eq_none (by omega)] at h2; cases h2)]
          exact HR.out
        obtain ⟨p, hpe⟩ : ∃ p, p = y1.getD q 0 := ⟨_, rfl⟩
        have hqy : q < y1.length := by have := Hq.out; omega
        have hp : p < L1.length := by
          rw [hpe, List.getD_eq_getElem?_getD, List.getElem?_eq_getElem hqy]
          exact HY.out _ (List.getElem_mem _)
        have Hp := hid8 hpe
        have HZ : Hid ((rowIn y1)[q]? = some (.int .i64 (p : Int))) := by
          show _ = _
          rw [rowIn_get y1 q hqy, hpe, List.getD_eq_getElem?_getD, List.getElem?_eq_getElem hqy]; rfl
        have hqi : (q : Int) < (y1.length : Int) := by omega
        have hpi : (p : Int) < (L1.length : Int) := by omega
        have hL9 : L1.length ≤ 1000000000 := by have := HLq.out; omega
        have HE6 : Hid (dnS (ws.length : Int) x f1 ((hiS x L1 y1 ++ [(⟨(ws.length : Int), 0, 0, 0, (y1.length : Int), 0⟩ : Nd)]), y1 ++ [L1.length]) = dnS (ws.length : Int) x (n + 1 - y.length) (L, y)) := by
          show _ = _
          rw [← HE.out]; rfl
        have HY6 : Hid (∀ i ∈ y1 ++ [L1.length], i < (hiS x L1 y1 ++ [(⟨(ws.length : Int), 0, 0, 0, (y1.length : Int), 0⟩ : Nd)]).length) := by
          show ∀ i ∈ y1 ++ [L1.length], i < (hiS x L1 y1 ++ [(⟨(ws.length : Int), 0, 0, 0, (y1.length : Int), 0⟩ : Nd)]).length
          intro i hi
          simp only [List.mem_append, List.mem_singleton] at hi
          simp only [List.length_append, List.length_singleton, hiS_len]
          rcases hi with hi | hi
          · have := HY.out i hi; omega
          · omega
        clear hb hbb HK HB HR HE HY hpe hqy KB
        by_cases hbit : bitZ x (q : Int) = 1
        · go_wp2_with fail
          refine qp_region2 17 (qpOk 17 17 (by decide) (fun N => by kernel_rfl) (by kernel_rfl) (by kernel_rfl) (by kernel_rfl) (by kernel_rfl)) (C := fun W => (GwV W base G B F L1 (ws ++ [x]) y1 (.slice (some ⟨g1, 0, none⟩) L1.length c1) (.slice (some ⟨g5, 0, none⟩) (ws.length + 1) c5) (.slice (some ⟨g2, 0, none⟩) y1.length c2) ∧ B3 w W base G B (.slice (some ⟨gn, 0, none⟩) L.length cn) vw (.slice (some ⟨gy, 0, none⟩) y.length cy)) ∧ W.heap[w.heap.size]? = some (.cells #[.int .u64 (hI x), .int .u64 (lI x), .int .i64 (n : Int), .int .i64 h] 47)) [some 44, some 45, some 46, some 47, some 48, some 49, some 50, some 51, some 52, some 53, some 54, some 55, some 56, some 57, some 58, some 59, some 60] [.pointer (some ⟨B, 0, none⟩), .pointer (some ⟨B, 0, none⟩), .pointer (some ⟨B, 1, none⟩), .slice (some ⟨g1, 0, none⟩) L1.length c1, .pointer (some ⟨G, 0, none⟩), .pointer (some ⟨G, 0, none⟩), .pointer (some ⟨G, 1, none⟩), .slice (some ⟨g2, 0, none⟩) y1.length c2, .int .i64 (q : Int), .pointer (some ⟨g2, q, none⟩), .int .i64 (p : Int), .pointer (some ⟨B, 0, none⟩), .pointer (some ⟨B, 0, none⟩), .pointer (some ⟨B, 1, none⟩), .slice (some ⟨g1, 0, none⟩) L1.length c1, .int .i64 (L1.length : Int), .int .i32 ((L1.length : Int))] (by kernel_rfl) (⟨⟨HK2.out.below (below_drewN (Below.refl _ _) 1), HB2.out.below (below_drewN (Below.refl _ _) 1) HK2.out.base_le⟩, HR2.out⟩) ?walk ?fin
          case walk =>
            dsimp only [List.take]
            refine q_run (v := .pointer (some ⟨B, 0, none⟩)) (by rfl) ?_ ?_
            · (intro w9 hC; have a0 := hC.1.1.g0; have a1 := hC.1.1.g1; have a4 := hC.1.1.t1; have z0 := (cells8 hC.1.1.oy (HZ.out)).1; clear hC; have hwl : IntKind.i32.wrap (L1.length : Int) = L1.length := (by rw [IntKind.wrap_i32]; omega); go_simp; first | done | (simp; done) | (simp [*]; done) | omega | (simp; omega) | (rw [IntKind.wrap_i64]; omega) | (intro hx; omega) | rfl)
            simp only [Act.put, List.setIfInBounds_toArray, List.set_cons_zero, List.set_cons_succ]
            refine q_run (v := .pointer (some ⟨B, 0, none⟩)) (by rfl) ?_ ?_
            · (intro w9 hC; have a0 := hC.1.1.g0; have a1 := hC.1.1.g1; have a4 := hC.1.1.t1; have z0 := (cells8 hC.1.1.oy (HZ.out)).1; clear hC; have hwl : IntKind.i32.wrap (L1.length : Int) = L1.length := (by rw [IntKind.wrap_i32]; omega); go_simp; first | done | (simp; done) | (simp [*]; done) | omega | (simp; omega) | (rw [IntKind.wrap_i64]; omega) | (intro hx; omega) | rfl)
            simp only [Act.put, List.setIfInBounds_toArray, List.set_cons_zero, List.set_cons_succ]
            refine q_run (v := .pointer (some ⟨B, 1, none⟩)) (by rfl) ?_ ?_
            · (intro w9 hC; have a0 := hC.1.1.g0; have a1 := hC.1.1.g1; have a4 := hC.1.1.t1; have z0 := (cells8 hC.1.1.oy (HZ.out)).1; clear hC; have hwl : IntKind.i32.wrap (L1.length : Int) = L1.length := (by rw [IntKind.wrap_i32]; omega); go_simp; first | done | (simp; done) | (simp [*]; done) | omega | (simp; omega) | (rw [IntKind.wrap_i64]; omega) | (intro hx; omega) | rfl)
            simp only [Act.put, List.setIfInBounds_toArray, List.set_cons_zero, List.set_cons_succ]
            refine q_run (v := .slice (some ⟨g1, 0, none⟩) L1.length c1) (by rfl) ?_ ?_
            · (intro w9 hC; have a0 := hC.1.1.g0; have a1 := hC.1.1.g1; have a4 := hC.1.1.t1; have z0 := (cells8 hC.1.1.oy (HZ.out)).1; clear hC; have hwl : IntKind.i32.wrap (L1.length : Int) = L1.length := (by rw [IntKind.wrap_i32]; omega); go_simp; first | done | (simp; done) | (simp [*]; done) | omega | (simp; omega) | (rw [IntKind.wrap_i64]; omega) | (intro hx; omega) | rfl)
            simp only [Act.put, List.setIfInBounds_toArray, List.set_cons_zero, List.set_cons_succ]
            refine q_run (v := .pointer (some ⟨G, 0, none⟩)) (by rfl) ?_ ?_
            · (intro w9 hC; have a0 := hC.1.1.g0; have a1 := hC.1.1.g1; have a4 := hC.1.1.t1; have z0 := (cells8 hC.1.1.oy (HZ.out)).1; clear hC; have hwl : IntKind.i32.wrap (L1.length : Int) = L1.length := (by rw [IntKind.wrap_i32]; omega); go_simp; first | done | (simp; done) | (simp [*]; done) | omega | (simp; omega) | (rw [IntKind.wrap_i64]; omega) | (intro hx; omega) | rfl)
            simp only [Act.put, List.setIfInBounds_toArray, List.set_cons_zero, List.set_cons_succ]
            refine q_run (v := .pointer (some ⟨G, 0, none⟩)) (by rfl) ?_ ?_
            · (intro w9 hC; have a0 := hC.1.1.g0; have a1 := hC.1.1.g1; have a4 := hC.1.1.t1; have z0 := (cells8 hC.1.1.oy (HZ.out)).1; clear hC; have hwl : IntKind.i32.wrap (L1.length : Int) = L1.length := (by rw [IntKind.wrap_i32]; omega); go_simp; first | done | (simp; done) | (simp [*]; done) | omega | (simp; omega) | (rw [IntKind.wrap_i64]; omega) | (intro hx; omega) | rfl)
            simp only [Act.put, List.setIfInBounds_toArray, List.set_cons_zero, List.set_cons_succ]
            refine q_run (v := .pointer (some ⟨G, 1, none⟩)) (by rfl) ?_ ?_
            · (intro w9 hC; have a0 := hC.1.1.g0; have a1 := hC.1.1.g1; have a4 := hC.1.1.t1; have z0 := (cells8 hC.1.1.oy (HZ.out)).1; clear hC; have hwl : IntKind.i32.wrap (L1.length : Int) = L1.length := (by rw [IntKind.wrap_i32]; omega); go_simp; first | done | (simp; done) | (simp [*]; done) | omega | (simp; omega) | (rw [IntKind.wrap_i64]; omega) | (intro hx; omega) | rfl)
            simp only [Act.put, List.setIfInBounds_toArray, List.set_cons_zero, List.set_cons_succ]
            refine q_run (v := .slice (some ⟨g2, 0, none⟩) y1.length c2) (by rfl) ?_ ?_
            · (intro w9 hC; have a0 := hC.1.1.g0; have a1 := hC.1.1.g1; have a4 := hC.1.1.t1; have z0 := (cells8 hC.1.1.oy (HZ.out)).1; clear hC; have hwl : IntKind.i32.wrap (L1.length : Int) = L1.length := (by rw [IntKind.wrap_i32]; omega); go_simp; first | done | (simp; done) | (simp [*]; done) | omega | (simp; omega) | (rw [IntKind.wrap_i64]; omega) | (intro hx; omega) | rfl)
            simp only [Act.put, List.setIfInBounds_toArray, List.set_cons_zero, List.set_cons_succ]
            refine q_run (v := .int .i64 (q : Int)) (by rfl) ?_ ?_
            · (intro w9 hC; have a0 := hC.1.1.g0; have a1 := hC.1.1.g1; have a4 := hC.1.1.t1; have z0 := (cells8 hC.1.1.oy (HZ.out)).1; clear hC; have hwl : IntKind.i32.wrap (L1.length : Int) = L1.length := (by rw [IntKind.wrap_i32]; omega); go_simp; first | done | (simp; done) | (simp [*]; done) | omega | (simp; omega) | (rw [IntKind.wrap_i64]; omega) | (intro hx; omega) | rfl)
            simp only [Act.put, List.setIfInBounds_toArray, List.set_cons_zero, List.set_cons_succ]
            refine q_run (v := .pointer (some ⟨g2, q, none⟩)) (by rfl) ?_ ?_
            · (intro w9 hC; have a0 := hC.1.1.g0; have a1 := hC.1.1.g1; have a4 := hC.1.1.t1; have z0 := (cells8 hC.1.1.oy (HZ.out)).1; clear hC; have hwl : IntKind.i32.wrap (L1.length : Int) = L1.length := (by rw [IntKind.wrap_i32]; omega); go_simp; first | done | (simp; done) | (simp [*]; done) | omega | (simp; omega) | (rw [IntKind.wrap_i64]; omega) | (intro hx; omega) | rfl)
            simp only [Act.put, List.setIfInBounds_toArray, List.set_cons_zero, List.set_cons_succ]
            refine q_run (v := .int .i64 (p : Int)) (by rfl) ?_ ?_
            · (intro w9 hC; have a0 := hC.1.1.g0; have a1 := hC.1.1.g1; have a4 := hC.1.1.t1; have z0 := (cells8 hC.1.1.oy (HZ.out)).1; clear hC; have hwl : IntKind.i32.wrap (L1.length : Int) = L1.length := (by rw [IntKind.wrap_i32]; omega); go_simp; first | done | (simp; done) | (simp [*]; done) | omega | (simp; omega) | (rw [IntKind.wrap_i64]; omega) | (intro hx; omega) | rfl)
            simp only [Act.put, List.setIfInBounds_toArray, List.set_cons_zero, List.set_cons_succ]
            refine q_run (v := .pointer (some ⟨B, 0, none⟩)) (by rfl) ?_ ?_
            · (intro w9 hC; have a0 := hC.1.1.g0; have a1 := hC.1.1.g1; have a4 := hC.1.1.t1; have z0 := (cells8 hC.1.1.oy (HZ.out)).1; clear hC; have hwl : IntKind.i32.wrap (L1.length : Int) = L1.length := (by rw [IntKind.wrap_i32]; omega); go_simp; first | done | (simp; done) | (simp [*]; done) | omega | (simp; omega) | (rw [IntKind.wrap_i64]; omega) | (intro hx; omega) | rfl)
            simp only [Act.put, List.setIfInBounds_toArray, List.set_cons_zero, List.set_cons_succ]
            refine q_run (v := .pointer (some ⟨B, 0, none⟩)) (by rfl) ?_ ?_
            · (intro w9 hC; have a0 := hC.1.1.g0; have a1 := hC.1.1.g1; have a4 := hC.1.1.t1; have z0 := (cells8 hC.1.1.oy (HZ.out)).1; clear hC; have hwl : IntKind.i32.wrap (L1.length : Int) = L1.length := (by rw [IntKind.wrap_i32]; omega); go_simp; first | done | (simp; done) | (simp [*]; done) | omega | (simp; omega) | (rw [IntKind.wrap_i64]; omega) | (intro hx; omega) | rfl)
            simp only [Act.put, List.setIfInBounds_toArray, List.set_cons_zero, List.set_cons_succ]
            refine q_run (v := .pointer (some ⟨B, 1, none⟩)) (by rfl) ?_ ?_
            · (intro w9 hC; have a0 := hC.1.1.g0; have a1 := hC.1.1.g1; have a4 := hC.1.1.t1; have z0 := (cells8 hC.1.1.oy (HZ.out)).1; clear hC; have hwl : IntKind.i32.wrap (L1.length : Int) = L1.length := (by rw [IntKind.wrap_i32]; omega); go_simp; first | done | (simp; done) | (simp [*]; done) | omega | (simp; omega) | (rw [IntKind.wrap_i64]; omega) | (intro hx; omega) | rfl)
            simp only [Act.put, List.setIfInBounds_toArray, List.set_cons_zero, List.set_cons_succ]
            refine q_run (v := .slice (some ⟨g1, 0, none⟩) L1.length c1) (by rfl) ?_ ?_
            · (intro w9 hC; have a0 := hC.1.1.g0; have a1 := hC.1.1.g1; have a4 := hC.1.1.t1; have z0 := (cells8 hC.1.1.oy (HZ.out)).1; clear hC; have hwl : IntKind.i32.wrap (L1.length : Int) = L1.length := (by rw [IntKind.wrap_i32]; omega); go_simp; first | done | (simp; done) | (simp [*]; done) | omega | (simp; omega) | (rw [IntKind.wrap_i64]; omega) | (intro hx; omega) | rfl)
            simp only [Act.put, List.setIfInBounds_toArray, List.set_cons_zero, List.set_cons_succ]
            refine q_run (v := .int .i64 (L1.length : Int)) (by rfl) ?_ ?_
            · (intro w9 hC; have a0 := hC.1.1.g0; have a1 := hC.1.1.g1; have a4 := hC.1.1.t1; have z0 := (cells8 hC.1.1.oy (HZ.out)).1; clear hC; have hwl : IntKind.i32.wrap (L1.length : Int) = L1.length := (by rw [IntKind.wrap_i32]; omega); go_simp; first | done | (simp; done) | (simp [*]; done) | omega | (simp; omega) | (rw [IntKind.wrap_i64]; omega) | (intro hx; omega) | rfl)
            simp only [Act.put, List.setIfInBounds_toArray, List.set_cons_zero, List.set_cons_succ]
            refine q_run (v := .int .i32 ((L1.length : Int))) (by rfl) ?_ ?_
            · (intro w9 hC; have a0 := hC.1.1.g0; have a1 := hC.1.1.g1; have a4 := hC.1.1.t1; have z0 := (cells8 hC.1.1.oy (HZ.out)).1; clear hC; have hwl : IntKind.i32.wrap (L1.length : Int) = L1.length := (by rw [IntKind.wrap_i32]; omega); go_simp; first | done | (simp; done) | (simp [*]; done) | omega | (simp; omega) | (rw [IntKind.wrap_i64]; omega) | (intro hx; omega) | rfl)
            simp only [Act.put, List.setIfInBounds_toArray, List.set_cons_zero, List.set_cons_succ]
            refine wpQuiet_nil ?_
            simp only [putAll, Act.put, List.setIfInBounds_toArray, List.set_cons_zero, List.set_cons_succ]
          case fin =>
            intro W hC
            simp only [putAll, Act.put, List.setIfInBounds_toArray, List.set_cons_zero, List.set_cons_succ]
            dsimp only [List.drop]
            obtain ⟨m1, mf⟩ := cells8 hC.1.1.on (rowNd_all L1 p hp).2.1
            have HG := hid8 (hC.1.1.setN (L' := hiS x L1 y1) (hiS_len x L1 y1) (p * 6 + 1) (.int .i32 ((L1.length : Int))) (by omega) (by rw [rowNd_hig L1 p hp, ← hiS_yes hbit Hq.out Hp.out hp (by omega)]))
            rw [hiS_len] at HG
            have HB3 := hid8 (hC.1.2.set (g := g1) (p * 6 + 1) (.int .i32 ((L1.length : Int))) (hC.1.1.on.lt g1 rfl).1 (fun hz => by rcases HN1.out g1 rfl with e | e; exact .inr (.inr (.inl e)); omega))
            have hRg : ¬ w.heap.size = g1 := fun e => own_not hC.1.1.on hC.2 (by decide) (by rw [e]; rfl)
            have HR3 := hid8 ((setB (W := W) (o := p * 6 + 1) (.int .i32 ((L1.length : Int))) hRg).trans hC.2)
            have HN3 := HN1
            clear hC HK2 HB2 HR2 hRg
            go_wp2_with fail
            clear m1 mf
            revert HG HB3 HR3
            generalize W.setCell ⟨g1, p * 6 + 1, none⟩ (.int .i32 ((L1.length : Int))) = W7
            intro HG HB3 HR3
            refine (lay8 base G B F L1 ws x y1 _ _ _ _ HG.out (by have := HLq.out; omega) (by omega) (by have := Hfq.out; omega)).mono ?_
            rintro e w6 ⟨rfl, ⟨vn6, vy6, k6, n6, m6⟩, b6⟩
            obtain ⟨g6, c6, rfl⟩ : ∃ g6 c6, vn6 = .slice (some ⟨g6, 0, none⟩) (hiS x L1 y1 ++ [(⟨(ws.length : Int), 0, 0, 0, (y1.length : Int), 0⟩ : Nd)]).length c6 := by
              obtain ⟨g, c, e, -, -⟩ := k6.on.form (by simp)
              exact ⟨g, c, e⟩
            obtain ⟨g7, c7, rfl⟩ : ∃ g7 c7, vy6 = .slice (some ⟨g7, 0, none⟩) (y1 ++ [L1.length]).length c7 := by
              obtain ⟨g, c, e, -, -⟩ := k6.oy.form (by simp)
              exact ⟨g, c, e⟩
            have HR6 := hid8 (b6.mine HR3.out hRG hRB (own_not HG.out.on HR3.out (by decide)) (own_not HG.out.oy HR3.out (by decide)))
            have HB6 := hid8 (HB3.out.bw b6 HN3.out HN2.out)
            have HN6 := hid8 (HN3.out.trans n6 HB3.out.2.1)
            have HN7 := hid8 (HN2.out.trans m6 HB3.out.2.1)
            have HK6 := hid8 k6
            clear k6 n6 m6 b6 HG HB3 HR3 HN3 HN2
            go_wp2_with fail
            go_roundw
            case rel => exact ⟨(hiS x L1 y1 ++ [(⟨(ws.length : Int), 0, 0, 0, (y1.length : Int), 0⟩ : Nd)]), y1 ++ [L1.length], f1, g6, c6, g7, c7, by have := Hfq.out; simp; omega, by have := HLq.out; simp [hiS_len]; omega, by simp, HY6, HE6, HK6, HN6, HN7, HB6, HR6⟩
            case measure =>
              have := HK6.out.g1
              rw [this]
              have := HM.out
              simpa [lenV8] using this
        · have hb0 : (bitZ x (q : Int) == 1) = false := by simpa using hbit
          have HG : Hid (GwV w2 base G B F (hiS x L1 y1) (ws ++ [x]) y1 (.slice (some ⟨g1, 0, none⟩) L1.length c1) (.slice (some ⟨g5, 0, none⟩) (ws.length + 1) c5) (.slice (some ⟨g2, 0, none⟩) y1.length c2)) := by
            show GwV _ _ _ _ _ _ _ _ _ _ _
            rw [hiS_no hbit Hq.out]; exact HK2.out
          have HB3 := HB2
          have HR3 := HR2
          have HN3 := HN1
          clear HK2 HB2 HR2
          go_wp2_with fail
          refine (lay8 base G B F L1 ws x y1 _ _ _ _ HG.out (by have := HLq.out; omega) (by omega) (by have := Hfq.out; omega)).mono ?_
          rintro e w6 ⟨rfl, ⟨vn6, vy6, k6, n6, m6⟩, b6⟩
          obtain ⟨g6, c6, rfl⟩ : ∃ g6 c6, vn6 = .slice (some ⟨g6, 0, none⟩) (hiS x L1 y1 ++ [(⟨(ws.length : Int), 0, 0, 0, (y1.length : Int), 0⟩ : Nd)]).length c6 := by
            obtain ⟨g, c, e, -, -⟩ := k6.on.form (by simp)
            exact ⟨g, c, e⟩
          obtain ⟨g7, c7, rfl⟩ : ∃ g7 c7, vy6 = .slice (some ⟨g7, 0, none⟩) (y1 ++ [L1.length]).length c7 := by
            obtain ⟨g, c, e, -, -⟩ := k6.oy.form (by simp)
            exact ⟨g, c, e⟩
          have HR6 := hid8 (b6.mine HR3.out hRG hRB (own_not HG.out.on HR3.out (by decide)) (own_not HG.out.oy HR3.out (by decide)))
          have HB6 := hid8 (HB3.out.bw b6 HN3.out HN2.out)
          have HN6 := hid8 (HN3.out.trans n6 HB3.out.2.1)
          have HN7 := hid8 (HN2.out.trans m6 HB3.out.2.1)
          have HK6 := hid8 k6
          clear k6 n6 m6 b6 HG HB3 HR3 HN3 HN2
          go_wp2_with fail
          go_roundw
          case rel => exact ⟨(hiS x L1 y1 ++ [(⟨(ws.length : Int), 0, 0, 0, (y1.length : Int), 0⟩ : Nd)]), y1 ++ [L1.length], f1, g6, c6, g7, c7, by have := Hfq.out; simp; omega, by have := HLq.out; simp [hiS_len]; omega, by simp, HY6, HE6, HK6, HN6, HN7, HB6, HR6⟩
          case measure =>
            have := HK6.out.g1
            rw [this]
            have := HM.out
            simpa [lenV8] using this
      · have hy0 : y1.length = n + 1 := by omega
        have f0 : f = 0 := by omega
        subst f0
        have hd : decide ((y1.length : Int) ≤ (n : Int)) = false := decide_eq_false hlt
        obtain ⟨p, hpe⟩ : ∃ p, p = y1.getD n 0 := ⟨_, rfl⟩
        have hqy : n < y1.length := by omega
        have hp : p < L1.length := by
          rw [hpe, List.getD_eq_getElem?_getD, List.getElem?_eq_getElem hqy]
          exact HY.out _ (List.getElem_mem _)
        have z0 := (cells8 HK.out.oy (j := n) (u := .int .i64 (p : Int)) (by
          rw [rowIn_get y1 n hqy, hpe, List.getD_eq_getElem?_getD, List.getElem?_eq_getElem hqy]; rfl)).1
        have hqi : (n : Int) < (y1.length : Int) := by omega
        have hpi : (p : Int) < (L1.length : Int) := by omega
        obtain ⟨m3, f3⟩ := cells8 HK.out.on (rowNd_all L1 p hp).2.2.2.1
        obtain ⟨m2, f2⟩ := cells8 HK.out.on (rowNd_all L1 p hp).2.2.1
        have HX : Hid (dnW (ws.length : Int) x n h L y = (dnE L1 p h, y1)) := by
          show _ = _
          unfold dnW
          simp only
          rw [← HE.out, hpe]; rfl
        have HD : Hid (∀ m, GwV (((wr.drewN m).setCell ⟨g1, p * 6 + 3, none⟩ (.int .u16 (IntKind.u16.wrap h))).setCell ⟨g1, p * 6 + 2, none⟩ (.int .i32 (IntKind.i32.wrap (L1[p].count + 1)))) base G B F (dnE L1 p h) (ws ++ [x]) y1 (.slice (some ⟨g1, 0, none⟩) L1.length c1) (.slice (some ⟨g5, 0, none⟩) (ws.length + 1) c5) (.slice (some ⟨g2, 0, none⟩) y1.length c2) ∧ B3 w (((wr.drewN m).setCell ⟨g1, p * 6 + 3, none⟩ (.int .u16 (IntKind.u16.wrap h))).setCell ⟨g1, p * 6 + 2, none⟩ (.int .i32 (IntKind.i32.wrap (L1[p].count + 1)))) base G B (.slice (some ⟨gn, 0, none⟩) L.length cn) vw (.slice (some ⟨gy, 0, none⟩) y.length cy)) := by
          show ∀ m, _
          intro m
          have k0 := HK.out.below (below_drewN (Below.refl wr.heap.size wr) m)
          have b0 := HB.out.below (below_drewN (Below.refl wr.heap.size wr) m) HK.out.base_le
          have hl : (L1.set p { L1[p] with hop := IntKind.u16.wrap h }).length = L1.length := by simp
          have k1 := k0.setN (L' := L1.set p { L1[p] with hop := IntKind.u16.wrap h }) hl (p * 6 + 3) (.int .u16 (IntKind.u16.wrap h)) (by omega) (rowNd_hop L1 p hp _)
          have hp2 : p < (L1.set p { L1[p] with hop := IntKind.u16.wrap h }).length := by omega
          have ec : (L1.set p { L1[p] with hop := IntKind.u16.wrap h })[p].count = L1[p].count := by simp
          have e2 := dnE_eq L1 p hp h _ rfl hp2 (IntKind.i32.wrap (L1[p].count + 1)) (by rw [ec])
          have k2 := k1.setN (L' := dnE L1 p h) (by simp [dnE]) (p * 6 + 2) (.int .i32 (IntKind.i32.wrap (L1[p].count + 1))) (by omega) (by rw [rowNd_cnt _ p hp2, e2])
          have hle : (dnE L1 p h).length = L1.length := by simp [dnE]
          rw [hle] at k2
          refine ⟨k2, ?_⟩
          have hg1 := (k0.on.lt g1 rfl).1
          have hg : g1 < w.heap.size → g1 = G ∨ g1 = B ∨ (.slice (some ⟨gn, 0, none⟩) L.length cn : Value).ownBlock = some g1 ∨ vw.ownBlock = some g1 ∨ (.slice (some ⟨gy, 0, none⟩) y.length cy : Value).ownBlock = some g1 := fun hz => by
            rcases HN1.out g1 rfl with e | e
            · exact .inr (.inr (.inl e))
            · omega
          exact (b0.set (g := g1) _ _ hg1 hg).set (g := g1) _ _ hg1 hg
        clear HK HB HE HR HY hpe hL1 hf
        go_wp2_with fail
        go_quiet (fail)
        go_wp2_with fail
        go_quiet (fail)
        go_wp2
        refine bodyPost_end (v := .tuple #[]) (by simp [results, Try.results55, go_sem]) rfl ⟨rfl, ⟨_, .slice (some ⟨g5, 0, none⟩) (ws.length + 1) c5, _, ?_, HN1.out, ?_, HN2.out⟩, ?_⟩
        · rw [HX.out, show wrap32 (L1[p].count + 1) = IntKind.i32.wrap (L1[p].count + 1) by unfold wrap32; rw [IntKind.wrap_i32]]; exact (HD.out _).1
        · exact Nb.of HW5.out
        · rw [show wrap32 (L1[p].count + 1) = IntKind.i32.wrap (L1[p].count + 1) by unfold wrap32; rw [IntKind.wrap_i32]]; exact (HD.out _).2
end Go.Proofs.Ytofpbommhklooaa
