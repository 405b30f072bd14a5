/-
  Part 5 of the proof: 1 texts, one behind the other.
-/
import Derived.Test.YtofpbommhklooaaPart2
import Derived.Test.YtofpbommhklooaaPart4
/-
  What the call of the grower's lay does.
-/
namespace Go.Proofs.Ytofpbommhklooaa
open Go.RowKit
set_option linter.unusedSimpArgs false
set_option linter.unusedVariables false

/-- A row of so many, its block and its room two letters in one. -/
def valG (n N : Nat) : Value := .slice (some ⟨(decN N).1, 0, none⟩) n (decN N).2
theorem news1 {W : World} {N : Nat} {v : Value} (h : W.cell? ⟨N, 0, none⟩ = some v) : ∀ j u, [v][j]? = some u → W.cell? ((⟨N, 0, none⟩ : Addr).add j) = some u := by
  intro j u hj
  rw [addA, Nat.zero_add]
  match j, hj with
  | 0, hj => simp at hj; subst hj; exact h
def cellN (x : Nd) : List Value := [.int .i32 x.word, .int .i32 x.high, .int .i32 x.count, .int .u16 x.hop, .int .u8 x.length, .int .u8 x.height]
theorem news6 {W : World} {N : Nat} {x : Nd} (h : AtN W N 0 x) : ∀ j u, (cellN x)[j]? = some u → W.cell? ((⟨N, 0, none⟩ : Addr).add j) = some u := by
  obtain ⟨a0, a1, a2, a3, a4, a5⟩ := h
  intro j u hj
  rw [addA, Nat.zero_add]
  unfold cellN at hj
  match j, hj with
  | 0, hj => simp at hj; subst hj; exact a0
  | 1, hj => simp at hj; subst hj; exact a1
  | 2, hj => simp at hj; subst hj; exact a2
  | 3, hj => simp at hj; subst hj; exact a3
  | 4, hj => simp at hj; subst hj; exact a4
  | 5, hj => simp at hj; subst hj; exact a5
/-- The cells of the grower and of the tree. -/
def GwC (W : World) (G B : Nat) (F : Int) (vn vw vy : Value) : Prop := W.cell? ⟨G, 0, none⟩ = some (.pointer (some ⟨B, 0, none⟩)) ∧ W.cell? ⟨G, 1, none⟩ = some vy ∧ W.frozen? ⟨G, 1, none⟩ = false ∧ W.cell? ⟨B, 0, none⟩ = some (.int .i64 F) ∧ W.cell? ⟨B, 1, none⟩ = some vn ∧ W.cell? ⟨B, 2, none⟩ = some vw ∧ W.frozen? ⟨B, 1, none⟩ = false ∧ W.frozen? ⟨B, 2, none⟩ = false
/-- What a grower's method leaves as it was: all below base, and all else that was there but the grower, the tree, the nodes and the way. -/
def Bw (w W : World) (base G B : Nat) (vn vy : Value) : Prop := Below base w W ∧ w.heap.size ≤ W.heap.size ∧ ∀ z, z < w.heap.size → z ≠ G → z ≠ B → vn.ownBlock ≠ some z → vy.ownBlock ≠ some z → W.heap[z]? = w.heap[z]?
section
variable {w W W' : World} {base G B : Nat} {vn vy : Value}
theorem Bw.refl (h : base ≤ w.heap.size) : Bw w w base G B vn vy := ⟨(Below.refl w.heap.size w).mono h, Nat.le_refl _, fun _ _ _ _ _ _ => rfl⟩
theorem Bw.below (k : Bw w W base G B vn vy) (hb : Below W.heap.size W W') (h : base ≤ W.heap.size) : Bw w W' base G B vn vy :=
  ⟨k.1.trans (hb.mono h), Nat.le_trans k.2.1 hb.size, fun z a b c d e => by rw [hb.block z (Nat.lt_of_lt_of_le a k.2.1)]; exact k.2.2 z a b c d e⟩
theorem Bw.drewN (k : Bw w W base G B vn vy) (h : base ≤ W.heap.size) (n : Nat) : Bw w (W.drewN n) base G B vn vy := k.below (below_drewN (Below.refl _ _) n) h
theorem Bw.grown (k : Bw w W base G B vn vy) {row : Option Nat} (hg : W.grownBy W' row) (hbl : Below base w W') (hr : ∀ z, row = some z → z < w.heap.size → vn.ownBlock = some z ∨ vy.ownBlock = some z) : Bw w W' base G B vn vy :=
  ⟨hbl, Nat.le_trans k.2.1 hg.size, fun z a b c d e => by
    rw [hg.block z (Nat.lt_of_lt_of_le a k.2.1) (fun q => by
      rcases hr z q.symm a with h | h
      · exact d h
      · exact e h)]
    exact k.2.2 z a b c d e⟩
theorem Bw.set (k : Bw w W base G B vn vy) {g : Nat} (o : Nat) (u : Value) (hb : base ≤ g) (hr : g < w.heap.size → g = G ∨ g = B ∨ vn.ownBlock = some g ∨ vy.ownBlock = some g) : Bw w (W.setCell ⟨g, o, none⟩ u) base G B vn vy :=
  ⟨k.1.setCell (p := ⟨g, o, none⟩) hb u, by simpa using k.2.1, fun z a b c d e => by
    rw [setB u (fun q => by
      subst q
      rcases hr a with h | h | h | h
      · exact b h
      · exact c h
      · exact d h
      · exact e h)]
    exact k.2.2 z a b c d e⟩
end
/-- A row stands where it stood, or in a block that is new. -/
def Nb (w : World) (v v' : Value) : Prop := ∀ g, v'.ownBlock = some g → v.ownBlock = some g ∨ w.heap.size ≤ g
theorem Nb.of {w : World} {v : Value} {g n c : Nat} (h : v.ownBlock = some g ∨ w.heap.size ≤ g) : Nb w v (.slice (some ⟨g, 0, none⟩) n c) := fun z e => by
  have e : g = z := by simpa [Value.ownBlock] using e
  subst e; exact h
/-- The way has grown, and the grower does not know it yet. -/
def GwA (w W : World) (base G B : Nat) (F : Int) (L : List Nd) (ws : List (BitVec 128)) (y : List Nat) (vn vw vy : Value) (g cap m : Nat) : Prop := ∃ W0, GwV W0 base G B F L ws y vn vw vy ∧ W0.grownBy W vy.ownBlock ∧ W.ownsRow base 3 1 (.slice (some ⟨g, 0, none⟩) (y.length + 1) cap) (y.length + 1) (rowIn (y ++ [m])) ∧ (vy.ownBlock = some g ∨ W0.heap.size ≤ g) ∧ Bw w W0 base G B vn vy
/-- The nodes have grown, and the tree does not know it yet. -/
def GwN (w W : World) (base G B : Nat) (F : Int) (L : List Nd) (ws : List (BitVec 128)) (y : List Nat) (vn vw vy : Value) (g cap : Nat) (x : Nd) (vy0 : Value) : Prop := ∃ W0, GwV W0 base G B F L ws y vn vw vy ∧ W0.grownBy W vn.ownBlock ∧ W.ownsRow base 77 6 (.slice (some ⟨g, 0, none⟩) (L.length + 1) cap) (L.length + 1) (rowNd (L ++ [x])) ∧ (vn.ownBlock = some g ∨ W0.heap.size ≤ g) ∧ Bw w W0 base G B vn vy0
section
variable {w W W' : World} {base G B g cap m : Nat} {F : Int} {L : List Nd} {ws : List (BitVec 128)} {y : List Nat} {vn vw vy vy0 : Value} {x : Nd}
theorem GwV.c (k : GwV W base G B F L ws y vn vw vy) : GwC W G B F vn vw vy := ⟨k.g0, k.g1, k.gf, k.t0, k.t1, k.t2, k.f1, k.f2⟩
theorem GwC.heap (k : GwC W G B F vn vw vy) (hG : W'.heap[G]? = W.heap[G]?) (hB : W'.heap[B]? = W.heap[B]?) : GwC W' G B F vn vw vy := by
  unfold GwC at *
  simpa only [cellB hG, cellB hB, frozB hG, frozB hB] using k
theorem GwA.c (k : GwA w W base G B F L ws y vn vw vy g cap m) : GwC W G B F vn vw vy := by
  obtain ⟨W0, k, h, -⟩ := k
  exact k.c.heap (h.block _ k.ltG (fun e => k.yG e.symm)) (h.block _ k.ltB (fun e => k.yB e.symm))
theorem GwN.c (k : GwN w W base G B F L ws y vn vw vy g cap x vy0) : GwC W G B F vn vw vy := by
  obtain ⟨W0, k, h, -⟩ := k
  exact k.c.heap (h.block _ k.ltG (fun e => k.nG e.symm)) (h.block _ k.ltB (fun e => k.nB e.symm))
theorem GwA.fin (k : GwA w W base G B F L ws y vn vw vy g cap m) : GwV (W.setCell ⟨G, 1, none⟩ (.slice (some ⟨g, 0, none⟩) (y.length + 1) cap)) base G B F L ws (y ++ [m]) vn vw (.slice (some ⟨g, 0, none⟩) (y.length + 1) cap) ∧ Bw w (W.setCell ⟨G, 1, none⟩ (.slice (some ⟨g, 0, none⟩) (y.length + 1) cap)) base G B vn vy ∧ (vy.ownBlock = some g ∨ w.heap.size ≤ g) := by
  obtain ⟨W0, k, h, ho, hg, hb⟩ := k
  exact ⟨k.way h ho hg, (hb.grown h (hb.1.grown h k.base_le (fun z e => (k.oy.lt z e).1)) (fun z e _ => .inr e)).set 1 _ k.bG (fun _ => .inl rfl), hg.imp id (fun q => Nat.le_trans hb.2.1 q)⟩
theorem GwN.fin (k : GwN w W base G B F L ws y vn vw vy g cap x vy0) : GwV (W.setCell ⟨B, 1, none⟩ (.slice (some ⟨g, 0, none⟩) (L.length + 1) cap)) base G B F (L ++ [x]) ws y (.slice (some ⟨g, 0, none⟩) (L.length + 1) cap) vw vy ∧ Bw w (W.setCell ⟨B, 1, none⟩ (.slice (some ⟨g, 0, none⟩) (L.length + 1) cap)) base G B vn vy0 ∧ (vn.ownBlock = some g ∨ w.heap.size ≤ g) := by
  obtain ⟨W0, k, h, ho, hg, hb⟩ := k
  exact ⟨k.nod h ho hg, (hb.grown h (hb.1.grown h k.base_le (fun z e => (k.on.lt z e).1)) (fun z e _ => .inl e)).set 1 _ k.bB (fun _ => .inr (.inl rfl)), hg.imp id (fun q => Nat.le_trans hb.2.1 q)⟩
end
theorem Try.infoI8 : (Try.prog.info? 3).map (fun i => (i.zero, i.size, i.bytes)) = some (some (.int .i64 0), 1, 8) := by kernel_rfl
theorem Try.infoN8 : (Try.prog.info? 77).map (fun i => (i.zero, i.size, i.bytes)) = some (some (.agg #[.int .i32 0, .int .i32 0, .int .i32 0, .int .u16 0, .int .u8 0, .int .u8 0]), 6, 16) := by kernel_rfl
theorem info_of {P : Program} {t : TypeId} {z : Value} {s b : Nat} (h : (P.info? t).map (fun i => (i.zero, i.size, i.bytes)) = some (some z, s, b)) : ∃ i, P.info? t = some i ∧ i.zero = some z ∧ i.size = s ∧ i.bytes = b := by
  cases e : P.info? t with
  | none => rw [e] at h; cases h
  | some i =>
    rw [e] at h
    simp only [Option.map_some, Option.some.injEq, Prod.mk.injEq] at h
    exact ⟨i, rfl, h.1, h.2.1, h.2.2⟩
set_option maxRecDepth 20000 in
set_option maxHeartbeats 8000000 in
theorem lay_any (base G B : Nat) (F : Int) (L : List Nd) (ws : List (BitVec 128)) (y : List Nat) (vn vw vy : Value) (w : World) (k : GwV w base G B F L ws y vn vw vy) (hL : L.length ≤ 1000000000) (hw0 : 1 ≤ ws.length) (hw1 : ws.length ≤ 1000000000) (hy : y.length ≤ 255) :
    Calls Try.prog 52 #[.pointer (some ⟨G, 0, none⟩)] w fun e w' => e = .returned (.tuple #[]) ∧ (∃ vn' vy', GwV w' base G B F (L ++ [⟨(ws.length : Int) - 1, 0, 0, 0, (y.length : Int), 0⟩]) ws (y ++ [L.length]) vn' vw vy' ∧ Nb w vn vn' ∧ Nb w vy vy') ∧ Bw w w' base G B vn vy := by
  obtain ⟨i0, hi, hz0, hz1, hz2⟩ := info_of Try.infoI8
  obtain ⟨j0, ji, jz0, jz1, jz2⟩ := info_of Try.infoN8
  obtain ⟨an, cn, rfl⟩ := own_form k.on
  obtain ⟨aw, cw, rfl⟩ := own_form k.ow
  have HQ := hid8 (And.intro k (Bw.refl (G := G) (B := B) (vn := .slice an L.length cn) (vy := vy) k.base_le))
  obtain ⟨a0, a1, -, a3, a4, a5, -, -⟩ := k.c
  have c1 : IntKind.i64.wrap ((ws.length : Int) - 1) = (ws.length : Int) - 1 := by rw [IntKind.wrap_i64]; omega
  have c2 : IntKind.i32.wrap ((ws.length : Int) - 1) = (ws.length : Int) - 1 := by rw [IntKind.wrap_i32]; omega
  have c3 : IntKind.i64.wrap (((y.length + 1 : Nat) : Int) - 1) = (y.length : Int) := by rw [IntKind.wrap_i64]; omega
  have c4 : IntKind.u8.wrap (y.length : Int) = (y.length : Int) := by rw [IntKind.wrap_u8]; omega
  clear k
  go_enter Try.func52, Try.ntmps52
  go_wp2_with fail
  clear a0 a1 a3 a4 a5
  refine ap_region 12 10 11 (alOk (qpOk 12 10 (by decide) (fun N => by kernel_rfl) (by kernel_rfl) (by kernel_rfl) (by kernel_rfl) (by kernel_rfl)) (by decide) rfl rfl (by kernel_rfl)) (alOk (qpOk 12 11 (by decide) (fun N => by kernel_rfl) (by kernel_rfl) (by kernel_rfl) (by kernel_rfl) (by kernel_rfl)) (by decide) rfl rfl (by kernel_rfl)) (by decide) (by kernel_rfl) (D := fun W => GwV W base G B F L ws y (.slice an L.length cn) (.slice aw ws.length cw) vy ∧ Bw w W base G B (.slice an L.length cn) vy) (C1 := fun N W => (GwV W base G B F L ws y (.slice an L.length cn) (.slice aw ws.length cw) vy ∧ Bw w W base G B (.slice an L.length cn) vy) ∧ W.cell? ⟨N, 0, none⟩ = some (.int .i64 (L.length : Int))) (C2 := fun N M W => GwA w W base G B F L ws y (.slice an L.length cn) (.slice aw ws.length cw) vy (decN M).1 (decN M).2 L.length) [some 7, some 8, some 9, some 10, some 11, some 12, some 13, some 14, some 15, some 16, some 17, some 18] (fun N M => [.pointer (some ⟨G, 0, none⟩), .pointer (some ⟨G, 0, none⟩), .pointer (some ⟨G, 0, none⟩), .pointer (some ⟨G, 1, none⟩), vy, .pointer (some ⟨B, 0, none⟩), .pointer (some ⟨B, 0, none⟩), .pointer (some ⟨B, 1, none⟩), .slice an L.length cn, .int .i64 (L.length : Int), .slice (some ⟨N, 0, none⟩) 1 1, valG (y.length + 1) M]) (fun N => .slice (some ⟨N, 0, none⟩) 1 1) (fun M => valG (y.length + 1) M) 17 18 [16] [11, 17] (by kernel_rfl) (fun N M => by kernel_rfl) rfl rfl ?hA ?hA1 ?hA2 (by kernel_rfl) (by kernel_rfl) (by decide) (by decide) ?h1 ?h2 (⟨HQ.out.1.below (below_drewN (Below.refl _ _) 1), HQ.out.2.drewN HQ.out.1.base_le 1⟩) ?walk ?fin
  case hA => intro N M; simp only [putAll, Act.put, List.setIfInBounds_toArray, List.set_cons_zero, List.set_cons_succ]; try rfl
  case hA1 => intro N M; simp only [putAll, Act.put, List.setIfInBounds_toArray, List.set_cons_zero, List.set_cons_succ]; try rfl
  case hA2 => intro N M; simp only [putAll, Act.put, List.setIfInBounds_toArray, List.set_cons_zero, List.set_cons_succ]; try rfl
  case h1 =>
    intro W a' hC hr K Q' hK
    have e16 : a'.tmps[16]? = some (.int .i64 (L.length : Int)) := (hr 16 (by simp)).trans (by simp only [putAll, Act.put, List.setIfInBounds_toArray, List.set_cons_zero, List.set_cons_succ]; rfl)
    have hb1 := bl1 W (.cells #[.int .i64 (L.length : Int)] 3)
    have hK' := hK W.heap.size (W.alloc (.cells #[.int .i64 (L.length : Int)] 3)) ⟨⟨hC.1.below hb1, hC.2.below hb1 hC.1.base_le⟩, by simp [go_sem]⟩
    clear hr
    unfold Oper.wp
    simp [execOp, e16, go_sem, Oper.upon]
    exact hK'
  case h2 =>
    intro N W a' hC hr K Q' hK
    have e11 : a'.tmps[11]? = some (vy) := (hr 11 (by simp)).trans (by simp only [putAll, Act.put, List.setIfInBounds_toArray, List.set_cons_zero, List.set_cons_succ]; rfl)
    have e17 : a'.tmps[17]? = some (.slice (some ⟨N, 0, none⟩) 1 1) := (hr 17 (by simp)).trans (by simp only [putAll, Act.put, List.setIfInBounds_toArray, List.set_cons_zero, List.set_cons_succ]; rfl)
    refine wp_append_lies W (.tmp 11) (.tmp 17) 37 rfl base 3 i0 (.int .i64 0) 1 8 Try.underlying37 hi hz0 hz1 hz2 rfl (by decide) vy y.length (rowIn y) (by simp [Act.eval, e11]) hC.1.1.oy ⟨N, 0, none⟩ 1 1 [.int .i64 (L.length : Int)] (by simp [Act.eval, e17]) rfl (news1 hC.2) (by intro u hu; simp at hu; subst hu; rfl) (by decide) (by unfold maxLen; omega) (by omega) hC.1.1.base_le _ rfl ?_
    intro g4 cap4 w4 hown4 hgrow hat hlt4
    obtain ⟨M, hM⟩ := decN_ex g4 cap4
    have eM : (.slice (some ⟨g4, 0, none⟩) (y.length + 1) cap4 : Value) = valG (y.length + 1) M := by rw [valG, hM]
    rw [eM]
    refine hK M w4 ⟨W, hC.1.1, hgrow, ?_, ?_, hC.1.2⟩
    · rw [hM, rowIn_app]; exact hown4
    · rw [hM]; rcases hat with h | h
      · exact .inl h
      · exact .inr (by rw [h]; exact Nat.le_refl _)
  case walk =>
    intro N M X hX
    have hXD : ∀ W, X W → GwC W G B F (.slice an L.length cn) (.slice aw ws.length cw) vy := by
      rcases hX with rfl | rfl | rfl
      · exact fun W h => h.1.c
      · exact fun W h => h.1.1.c
      · exact fun W h => h.c
    clear hX HQ
    dsimp only [rep, List.take, List.modify, List.modifyTailIdx, List.modifyTailIdx.go, List.modifyHead]
    refine q_run (v := .pointer (some ⟨G, 0, none⟩)) (by rfl) ?_ ?_
    · (intro w1 hC; obtain ⟨a0, a1, -, a3, a4, a5, -, -⟩ := hXD w1 hC; clear hC hXD; go_simp; first | done | (simp; done) | (simp [*]; done) | omega | (simp; omega) | (rw [IntKind.wrap_i64]; omega) | (intro hx; omega) | rfl)
    simp only [Act.put, List.setIfInBounds_toArray, List.set_cons_zero, List.set_cons_succ]
    refine q_run (v := .pointer (some ⟨G, 0, none⟩)) (by rfl) ?_ ?_
    · (intro w1 hC; obtain ⟨a0, a1, -, a3, a4, a5, -, -⟩ := hXD w1 hC; clear hC hXD; go_simp; first | done | (simp; done) | (simp [*]; done) | omega | (simp; omega) | (rw [IntKind.wrap_i64]; omega) | (intro hx; omega) | rfl)
    simp only [Act.put, List.setIfInBounds_toArray, List.set_cons_zero, List.set_cons_succ]
    refine q_run (v := .pointer (some ⟨G, 0, none⟩)) (by rfl) ?_ ?_
    · (intro w1 hC; obtain ⟨a0, a1, -, a3, a4, a5, -, -⟩ := hXD w1 hC; clear hC hXD; go_simp; first | done | (simp; done) | (simp [*]; done) | omega | (simp; omega) | (rw [IntKind.wrap_i64]; omega) | (intro hx; omega) | rfl)
    simp only [Act.put, List.setIfInBounds_toArray, List.set_cons_zero, List.set_cons_succ]
    refine q_run (v := .pointer (some ⟨G, 1, none⟩)) (by rfl) ?_ ?_
    · (intro w1 hC; obtain ⟨a0, a1, -, a3, a4, a5, -, -⟩ := hXD w1 hC; clear hC hXD; go_simp; first | done | (simp; done) | (simp [*]; done) | omega | (simp; omega) | (rw [IntKind.wrap_i64]; omega) | (intro hx; omega) | rfl)
    simp only [Act.put, List.setIfInBounds_toArray, List.set_cons_zero, List.set_cons_succ]
    refine q_run (v := vy) (by rfl) ?_ ?_
    · (intro w1 hC; obtain ⟨a0, a1, -, a3, a4, a5, -, -⟩ := hXD w1 hC; clear hC hXD; go_simp; first | done | (simp; done) | (simp [*]; done) | omega | (simp; omega) | (rw [IntKind.wrap_i64]; omega) | (intro hx; omega) | rfl)
    simp only [Act.put, List.setIfInBounds_toArray, List.set_cons_zero, List.set_cons_succ]
    refine q_run (v := .pointer (some ⟨B, 0, none⟩)) (by rfl) ?_ ?_
    · (intro w1 hC; obtain ⟨a0, a1, -, a3, a4, a5, -, -⟩ := hXD w1 hC; clear hC hXD; go_simp; first | done | (simp; done) | (simp [*]; done) | omega | (simp; omega) | (rw [IntKind.wrap_i64]; omega) | (intro hx; omega) | rfl)
    simp only [Act.put, List.setIfInBounds_toArray, List.set_cons_zero, List.set_cons_succ]
    refine q_run (v := .pointer (some ⟨B, 0, none⟩)) (by rfl) ?_ ?_
    · (intro w1 hC; obtain ⟨a0, a1, -, a3, a4, a5, -, -⟩ := hXD w1 hC; clear hC hXD; go_simp; first | done | (simp; done) | (simp [*]; done) | omega | (simp; omega) | (rw [IntKind.wrap_i64]; omega) | (intro hx; omega) | rfl)
    simp only [Act.put, List.setIfInBounds_toArray, List.set_cons_zero, List.set_cons_succ]
    refine q_run (v := .pointer (some ⟨B, 1, none⟩)) (by rfl) ?_ ?_
    · (intro w1 hC; obtain ⟨a0, a1, -, a3, a4, a5, -, -⟩ := hXD w1 hC; clear hC hXD; go_simp; first | done | (simp; done) | (simp [*]; done) | omega | (simp; omega) | (rw [IntKind.wrap_i64]; omega) | (intro hx; omega) | rfl)
    simp only [Act.put, List.setIfInBounds_toArray, List.set_cons_zero, List.set_cons_succ]
    refine q_run (v := .slice an L.length cn) (by rfl) ?_ ?_
    · (intro w1 hC; obtain ⟨a0, a1, -, a3, a4, a5, -, -⟩ := hXD w1 hC; clear hC hXD; go_simp; first | done | (simp; done) | (simp [*]; done) | omega | (simp; omega) | (rw [IntKind.wrap_i64]; omega) | (intro hx; omega) | rfl)
    simp only [Act.put, List.setIfInBounds_toArray, List.set_cons_zero, List.set_cons_succ]
    refine q_run (v := .int .i64 (L.length : Int)) (by rfl) ?_ ?_
    · (intro w1 hC; obtain ⟨a0, a1, -, a3, a4, a5, -, -⟩ := hXD w1 hC; clear hC hXD; go_simp; first | done | (simp; done) | (simp [*]; done) | omega | (simp; omega) | (rw [IntKind.wrap_i64]; omega) | (intro hx; omega) | rfl)
    simp only [Act.put, List.setIfInBounds_toArray, List.set_cons_zero, List.set_cons_succ]
    refine q_run (v := .slice (some ⟨N, 0, none⟩) 1 1) (by rfl) ?_ ?_
    · (intro w1 hC; obtain ⟨a0, a1, -, a3, a4, a5, -, -⟩ := hXD w1 hC; clear hC hXD; go_simp; first | done | (simp; done) | (simp [*]; done) | omega | (simp; omega) | (rw [IntKind.wrap_i64]; omega) | (intro hx; omega) | rfl)
    simp only [Act.put, List.setIfInBounds_toArray, List.set_cons_zero, List.set_cons_succ]
    refine q_run (v := valG (y.length + 1) M) (by rfl) ?_ ?_
    · (intro w1 hC; obtain ⟨a0, a1, -, a3, a4, a5, -, -⟩ := hXD w1 hC; clear hC hXD; go_simp; first | done | (simp; done) | (simp [*]; done) | omega | (simp; omega) | (rw [IntKind.wrap_i64]; omega) | (intro hx; omega) | rfl)
    simp only [Act.put, List.setIfInBounds_toArray, List.set_cons_zero, List.set_cons_succ]
    refine wpQuiet_nil ?_
    simp only [putAll, Act.put, List.setIfInBounds_toArray, List.set_cons_zero, List.set_cons_succ]
  case fin =>
    intro N M W hC
    simp only [putAll, Act.put, List.setIfInBounds_toArray, List.set_cons_zero, List.set_cons_succ]
    dsimp only [List.drop]
    have HFF := hid8 hC.fin
    obtain ⟨a0, a1, fG, a3, a4, a5, -, -⟩ := hC.c
    clear hC HQ
    obtain ⟨g5, c5, hd⟩ : ∃ g5 c5, valG (y.length + 1) M = .slice (some ⟨g5, 0, none⟩) (y.length + 1) c5 ∧ g5 = (decN M).1 ∧ c5 = (decN M).2 := ⟨_, _, rfl, rfl, rfl⟩
    rw [← hd.2.1, ← hd.2.2] at HFF
    have HF := hid8 (And.intro HFF.out.1 HFF.out.2.1)
    have HNy : Hid (Nb w vy (.slice (some ⟨g5, 0, none⟩) (y.length + 1) c5)) := Nb.of HFF.out.2.2
    clear HFF
    rw [hd.1]
    clear hd
    go_wp2_with fail
    clear a0 a1 fG a3 a4 a5
    revert HF
    generalize W.setCell ⟨G, 1, none⟩ (.slice (some ⟨g5, 0, none⟩) (y.length + 1) c5) = W5
    intro HQ
    refine ap_region 22 20 21 (alOk (qpOk 22 20 (by decide) (fun N => by kernel_rfl) (by kernel_rfl) (by kernel_rfl) (by kernel_rfl) (by kernel_rfl)) (by decide) rfl rfl (by kernel_rfl)) (alOk (qpOk 22 21 (by decide) (fun N => by kernel_rfl) (by kernel_rfl) (by kernel_rfl) (by kernel_rfl) (by kernel_rfl)) (by decide) rfl rfl (by kernel_rfl)) (by decide) (by kernel_rfl) (D := fun W => GwV W base G B F L ws (y ++ [L.length]) (.slice an L.length cn) (.slice aw ws.length cw) (.slice (some ⟨g5, 0, none⟩) (y.length + 1) c5) ∧ Bw w W base G B (.slice an L.length cn) vy) (C1 := fun N W => (GwV W base G B F L ws (y ++ [L.length]) (.slice an L.length cn) (.slice aw ws.length cw) (.slice (some ⟨g5, 0, none⟩) (y.length + 1) c5) ∧ Bw w W base G B (.slice an L.length cn) vy) ∧ AtN W N 0 ⟨(ws.length : Int) - 1, 0, 0, 0, (y.length : Int), 0⟩) (C2 := fun N M W => GwN w W base G B F L ws (y ++ [L.length]) (.slice an L.length cn) (.slice aw ws.length cw) (.slice (some ⟨g5, 0, none⟩) (y.length + 1) c5) (decN M).1 (decN M).2 ⟨(ws.length : Int) - 1, 0, 0, 0, (y.length : Int), 0⟩ vy) [some 21, some 22, some 23, some 24, some 25, some 26, some 27, some 28, some 29, some 30, some 31, some 32, some 33, some 34, some 35, some 36, some 37, some 38, some 39, some 40, some 41, some 42] (fun N M => [.pointer (some ⟨B, 0, none⟩), .pointer (some ⟨B, 0, none⟩), .pointer (some ⟨B, 0, none⟩), .pointer (some ⟨B, 1, none⟩), .slice an L.length cn, .pointer (some ⟨B, 0, none⟩), .pointer (some ⟨B, 0, none⟩), .pointer (some ⟨B, 2, none⟩), .slice aw ws.length cw, .int .i64 (ws.length : Int), .int .i64 ((ws.length : Int) - 1), .int .i32 ((ws.length : Int) - 1), .pointer (some ⟨G, 0, none⟩), .pointer (some ⟨G, 0, none⟩), .pointer (some ⟨G, 1, none⟩), .slice (some ⟨g5, 0, none⟩) (y.length + 1) c5, .int .i64 ((y.length + 1 : Nat) : Int), .int .i64 (y.length : Int), .int .u8 (y.length : Int), .agg #[.int .i32 ((ws.length : Int) - 1), .int .i32 0, .int .i32 0, .int .u16 0, .int .u8 (y.length : Int), .int .u8 0], .slice (some ⟨N, 0, none⟩) 1 1, valG (L.length + 1) M]) (fun N => .slice (some ⟨N, 0, none⟩) 1 1) (fun M => valG (L.length + 1) M) 41 42 [40] [25, 41] (by kernel_rfl) (fun N M => by kernel_rfl) rfl rfl ?hA ?hA1 ?hA2 (by kernel_rfl) (by kernel_rfl) (by decide) (by decide) ?h1 ?h2 (⟨HQ.out.1.below (below_drewN (Below.refl _ _) 1), HQ.out.2.drewN HQ.out.1.base_le 1⟩) ?walk ?fin
    case hA => intro N M; simp only [putAll, Act.put, List.setIfInBounds_toArray, List.set_cons_zero, List.set_cons_succ]; try rfl
    case hA1 => intro N M; simp only [putAll, Act.put, List.setIfInBounds_toArray, List.set_cons_zero, List.set_cons_succ]; try rfl
    case hA2 => intro N M; simp only [putAll, Act.put, List.setIfInBounds_toArray, List.set_cons_zero, List.set_cons_succ]; try rfl
    case h1 =>
      intro W a' hC hr K Q' hK
      have e40 : a'.tmps[40]? = some (.agg #[.int .i32 ((ws.length : Int) - 1), .int .i32 0, .int .i32 0, .int .u16 0, .int .u8 (y.length : Int), .int .u8 0]) := (hr 40 (by simp)).trans (by simp only [putAll, Act.put, List.setIfInBounds_toArray, List.set_cons_zero, List.set_cons_succ]; rfl)
      have hb1 := bl1 W (.cells #[.int .i32 ((ws.length : Int) - 1), .int .i32 0, .int .i32 0, .int .u16 0, .int .u8 (y.length : Int), .int .u8 0] 77)
      have hK' := hK W.heap.size (W.alloc (.cells #[.int .i32 ((ws.length : Int) - 1), .int .i32 0, .int .i32 0, .int .u16 0, .int .u8 (y.length : Int), .int .u8 0] 77)) ⟨⟨hC.1.below hb1, hC.2.below hb1 hC.1.base_le⟩, ⟨by simp [go_sem], by simp [go_sem], by simp [go_sem], by simp [go_sem], by simp [go_sem], by simp [go_sem]⟩⟩
      clear hr
      unfold Oper.wp
      simp [execOp, e40, go_sem, Oper.upon]
      exact hK'
    case h2 =>
      intro N W a' hC hr K Q' hK
      have e25 : a'.tmps[25]? = some (.slice an L.length cn) := (hr 25 (by simp)).trans (by simp only [putAll, Act.put, List.setIfInBounds_toArray, List.set_cons_zero, List.set_cons_succ]; rfl)
      have e41 : a'.tmps[41]? = some (.slice (some ⟨N, 0, none⟩) 1 1) := (hr 41 (by simp)).trans (by simp only [putAll, Act.put, List.setIfInBounds_toArray, List.set_cons_zero, List.set_cons_succ]; rfl)
      refine wp_append_lies W (.tmp 25) (.tmp 41) 80 rfl base 77 j0 (.agg #[.int .i32 0, .int .i32 0, .int .i32 0, .int .u16 0, .int .u8 0, .int .u8 0]) 6 16 Try.underlying80 ji jz0 jz1 jz2 rfl (by decide) (.slice an L.length cn) L.length (rowNd L) (by simp [Act.eval, e25]) hC.1.1.on ⟨N, 0, none⟩ 1 1 (cellN ⟨(ws.length : Int) - 1, 0, 0, 0, (y.length : Int), 0⟩) (by simp [Act.eval, e41]) rfl (news6 hC.2) (by intro u hu; simp [cellN] at hu; rcases hu with rfl | rfl | rfl | rfl | rfl | rfl <;> rfl) (by decide) (by unfold maxLen; omega) (by omega) hC.1.1.base_le _ rfl ?_
      intro g4 cap4 w4 hown4 hgrow hat hlt4
      obtain ⟨M, hM⟩ := decN_ex g4 cap4
      have eM : (.slice (some ⟨g4, 0, none⟩) (L.length + 1) cap4 : Value) = valG (L.length + 1) M := by rw [valG, hM]
      rw [eM]
      refine hK M w4 ⟨W, hC.1.1, hgrow, ?_, ?_, hC.1.2⟩
      · rw [hM, rowNd_app]; exact hown4
      · rw [hM]; rcases hat with h | h
        · exact .inl h
        · exact .inr (by rw [h]; exact Nat.le_refl _)
    case walk =>
      intro N M X hX
      have hXD : ∀ W, X W → GwC W G B F (.slice an L.length cn) (.slice aw ws.length cw) (.slice (some ⟨g5, 0, none⟩) (y.length + 1) c5) := by
        rcases hX with rfl | rfl | rfl
        · exact fun W h => h.1.c
        · exact fun W h => h.1.1.c
        · exact fun W h => h.c
      clear hX HQ
      dsimp only [rep, List.take, List.modify, List.modifyTailIdx, List.modifyTailIdx.go, List.modifyHead]
      refine q_run (v := .pointer (some ⟨B, 0, none⟩)) (by rfl) ?_ ?_
      · (intro w1 hC; obtain ⟨a0, a1, -, a3, a4, a5, -, -⟩ := hXD w1 hC; clear hC hXD; go_simp; first | done | (simp; done) | (simp [*]; done) | omega | (simp; omega) | (rw [IntKind.wrap_i64]; omega) | (intro hx; omega) | rfl)
      simp only [Act.put, List.setIfInBounds_toArray, List.set_cons_zero, List.set_cons_succ]
      refine q_run (v := .pointer (some ⟨B, 0, none⟩)) (by rfl) ?_ ?_
      · (intro w1 hC; obtain ⟨a0, a1, -, a3, a4, a5, -, -⟩ := hXD w1 hC; clear hC hXD; go_simp; first | done | (simp; done) | (simp [*]; done) | omega | (simp; omega) | (rw [IntKind.wrap_i64]; omega) | (intro hx; omega) | rfl)
      simp only [Act.put, List.setIfInBounds_toArray, List.set_cons_zero, List.set_cons_succ]
      refine q_run (v := .pointer (some ⟨B, 0, none⟩)) (by rfl) ?_ ?_
      · (intro w1 hC; obtain ⟨a0, a1, -, a3, a4, a5, -, -⟩ := hXD w1 hC; clear hC hXD; go_simp; first | done | (simp; done) | (simp [*]; done) | omega | (simp; omega) | (rw [IntKind.wrap_i64]; omega) | (intro hx; omega) | rfl)
      simp only [Act.put, List.setIfInBounds_toArray, List.set_cons_zero, List.set_cons_succ]
      refine q_run (v := .pointer (some ⟨B, 1, none⟩)) (by rfl) ?_ ?_
      · (intro w1 hC; obtain ⟨a0, a1, -, a3, a4, a5, -, -⟩ := hXD w1 hC; clear hC hXD; go_simp; first | done | (simp; done) | (simp [*]; done) | omega | (simp; omega) | (rw [IntKind.wrap_i64]; omega) | (intro hx; omega) | rfl)
      simp only [Act.put, List.setIfInBounds_toArray, List.set_cons_zero, List.set_cons_succ]
      refine q_run (v := .slice an L.length cn) (by rfl) ?_ ?_
      · (intro w1 hC; obtain ⟨a0, a1, -, a3, a4, a5, -, -⟩ := hXD w1 hC; clear hC hXD; go_simp; first | done | (simp; done) | (simp [*]; done) | omega | (simp; omega) | (rw [IntKind.wrap_i64]; omega) | (intro hx; omega) | rfl)
      simp only [Act.put, List.setIfInBounds_toArray, List.set_cons_zero, List.set_cons_succ]
      refine q_run (v := .pointer (some ⟨B, 0, none⟩)) (by rfl) ?_ ?_
      · (intro w1 hC; obtain ⟨a0, a1, -, a3, a4, a5, -, -⟩ := hXD w1 hC; clear hC hXD; go_simp; first | done | (simp; done) | (simp [*]; done) | omega | (simp; omega) | (rw [IntKind.wrap_i64]; omega) | (intro hx; omega) | rfl)
      simp only [Act.put, List.setIfInBounds_toArray, List.set_cons_zero, List.set_cons_succ]
      refine q_run (v := .pointer (some ⟨B, 0, none⟩)) (by rfl) ?_ ?_
      · (intro w1 hC; obtain ⟨a0, a1, -, a3, a4, a5, -, -⟩ := hXD w1 hC; clear hC hXD; go_simp; first | done | (simp; done) | (simp [*]; done) | omega | (simp; omega) | (rw [IntKind.wrap_i64]; omega) | (intro hx; omega) | rfl)
      simp only [Act.put, List.setIfInBounds_toArray, List.set_cons_zero, List.set_cons_succ]
      refine q_run (v := .pointer (some ⟨B, 2, none⟩)) (by rfl) ?_ ?_
      · (intro w1 hC; obtain ⟨a0, a1, -, a3, a4, a5, -, -⟩ := hXD w1 hC; clear hC hXD; go_simp; first | done | (simp; done) | (simp [*]; done) | omega | (simp; omega) | (rw [IntKind.wrap_i64]; omega) | (intro hx; omega) | rfl)
      simp only [Act.put, List.setIfInBounds_toArray, List.set_cons_zero, List.set_cons_succ]
      refine q_run (v := .slice aw ws.length cw) (by rfl) ?_ ?_
      · (intro w1 hC; obtain ⟨a0, a1, -, a3, a4, a5, -, -⟩ := hXD w1 hC; clear hC hXD; go_simp; first | done | (simp; done) | (simp [*]; done) | omega | (simp; omega) | (rw [IntKind.wrap_i64]; omega) | (intro hx; omega) | rfl)
      simp only [Act.put, List.setIfInBounds_toArray, List.set_cons_zero, List.set_cons_succ]
      refine q_run (v := .int .i64 (ws.length : Int)) (by rfl) ?_ ?_
      · (intro w1 hC; obtain ⟨a0, a1, -, a3, a4, a5, -, -⟩ := hXD w1 hC; clear hC hXD; go_simp; first | done | (simp; done) | (simp [*]; done) | omega | (simp; omega) | (rw [IntKind.wrap_i64]; omega) | (intro hx; omega) | rfl)
      simp only [Act.put, List.setIfInBounds_toArray, List.set_cons_zero, List.set_cons_succ]
      refine q_run (v := .int .i64 ((ws.length : Int) - 1)) (by rfl) ?_ ?_
      · (intro w1 hC; obtain ⟨a0, a1, -, a3, a4, a5, -, -⟩ := hXD w1 hC; clear hC hXD; go_simp; first | done | (simp; done) | (simp [*]; done) | omega | (simp; omega) | (rw [IntKind.wrap_i64]; omega) | (intro hx; omega) | rfl)
      simp only [Act.put, List.setIfInBounds_toArray, List.set_cons_zero, List.set_cons_succ]
      refine q_run (v := .int .i32 ((ws.length : Int) - 1)) (by rfl) ?_ ?_
      · (intro w1 hC; obtain ⟨a0, a1, -, a3, a4, a5, -, -⟩ := hXD w1 hC; clear hC hXD; go_simp; first | done | (simp; done) | (simp [*]; done) | omega | (simp; omega) | (rw [IntKind.wrap_i64]; omega) | (intro hx; omega) | rfl)
      simp only [Act.put, List.setIfInBounds_toArray, List.set_cons_zero, List.set_cons_succ]
      refine q_run (v := .pointer (some ⟨G, 0, none⟩)) (by rfl) ?_ ?_
      · (intro w1 hC; obtain ⟨a0, a1, -, a3, a4, a5, -, -⟩ := hXD w1 hC; clear hC hXD; go_simp; first | done | (simp; done) | (simp [*]; done) | omega | (simp; omega) | (rw [IntKind.wrap_i64]; omega) | (intro hx; omega) | rfl)
      simp only [Act.put, List.setIfInBounds_toArray, List.set_cons_zero, List.set_cons_succ]
      refine q_run (v := .pointer (some ⟨G, 0, none⟩)) (by rfl) ?_ ?_
      · (intro w1 hC; obtain ⟨a0, a1, -, a3, a4, a5, -, -⟩ := hXD w1 hC; clear hC hXD; go_simp; first | done | (simp; done) | (simp [*]; done) | omega | (simp; omega) | (rw [IntKind.wrap_i64]; omega) | (intro hx; omega) | rfl)
      simp only [Act.put, List.setIfInBounds_toArray, List.set_cons_zero, List.set_cons_succ]
      refine q_run (v := .pointer (some ⟨G, 1, none⟩)) (by rfl) ?_ ?_
      · (intro w1 hC; obtain ⟨a0, a1, -, a3, a4, a5, -, -⟩ := hXD w1 hC; clear hC hXD; go_simp; first | done | (simp; done) | (simp [*]; done) | omega | (simp; omega) | (rw [IntKind.wrap_i64]; omega) | (intro hx; omega) | rfl)
      simp only [Act.put, List.setIfInBounds_toArray, List.set_cons_zero, List.set_cons_succ]
      refine q_run (v := .slice (some ⟨g5, 0, none⟩) (y.length + 1) c5) (by rfl) ?_ ?_
      · (intro w1 hC; obtain ⟨a0, a1, -, a3, a4, a5, -, -⟩ := hXD w1 hC; clear hC hXD; go_simp; first | done | (simp; done) | (simp [*]; done) | omega | (simp; omega) | (rw [IntKind.wrap_i64]; omega) | (intro hx; omega) | rfl)
      simp only [Act.put, List.setIfInBounds_toArray, List.set_cons_zero, List.set_cons_succ]
      refine q_run (v := .int .i64 ((y.length + 1 : Nat) : Int)) (by rfl) ?_ ?_
      · (intro w1 hC; obtain ⟨a0, a1, -, a3, a4, a5, -, -⟩ := hXD w1 hC; clear hC hXD; go_simp; first | done | (simp; done) | (simp [*]; done) | omega | (simp; omega) | (rw [IntKind.wrap_i64]; omega) | (intro hx; omega) | rfl)
      simp only [Act.put, List.setIfInBounds_toArray, List.set_cons_zero, List.set_cons_succ]
      refine q_run (v := .int .i64 (y.length : Int)) (by rfl) ?_ ?_
      · (intro w1 hC; obtain ⟨a0, a1, -, a3, a4, a5, -, -⟩ := hXD w1 hC; clear hC hXD; go_simp; first | done | (simp; done) | (simp [*]; done) | omega | (simp; omega) | (rw [IntKind.wrap_i64]; omega) | (intro hx; omega) | rfl)
      simp only [Act.put, List.setIfInBounds_toArray, List.set_cons_zero, List.set_cons_succ]
      refine q_run (v := .int .u8 (y.length : Int)) (by rfl) ?_ ?_
      · (intro w1 hC; obtain ⟨a0, a1, -, a3, a4, a5, -, -⟩ := hXD w1 hC; clear hC hXD; go_simp; first | done | (simp; done) | (simp [*]; done) | omega | (simp; omega) | (rw [IntKind.wrap_i64]; omega) | (intro hx; omega) | rfl)
      simp only [Act.put, List.setIfInBounds_toArray, List.set_cons_zero, List.set_cons_succ]
      refine q_run (v := .agg #[.int .i32 ((ws.length : Int) - 1), .int .i32 0, .int .i32 0, .int .u16 0, .int .u8 (y.length : Int), .int .u8 0]) (by rfl) ?_ ?_
      · (intro w1 hC; obtain ⟨a0, a1, -, a3, a4, a5, -, -⟩ := hXD w1 hC; clear hC hXD; go_simp; first | done | (simp; done) | (simp [*]; done) | omega | (simp; omega) | (rw [IntKind.wrap_i64]; omega) | (intro hx; omega) | rfl)
      simp only [Act.put, List.setIfInBounds_toArray, List.set_cons_zero, List.set_cons_succ]
      refine q_run (v := .slice (some ⟨N, 0, none⟩) 1 1) (by rfl) ?_ ?_
      · (intro w1 hC; obtain ⟨a0, a1, -, a3, a4, a5, -, -⟩ := hXD w1 hC; clear hC hXD; go_simp; first | done | (simp; done) | (simp [*]; done) | omega | (simp; omega) | (rw [IntKind.wrap_i64]; omega) | (intro hx; omega) | rfl)
      simp only [Act.put, List.setIfInBounds_toArray, List.set_cons_zero, List.set_cons_succ]
      refine q_run (v := valG (L.length + 1) M) (by rfl) ?_ ?_
      · (intro w1 hC; obtain ⟨a0, a1, -, a3, a4, a5, -, -⟩ := hXD w1 hC; clear hC hXD; go_simp; first | done | (simp; done) | (simp [*]; done) | omega | (simp; omega) | (rw [IntKind.wrap_i64]; omega) | (intro hx; omega) | rfl)
      simp only [Act.put, List.setIfInBounds_toArray, List.set_cons_zero, List.set_cons_succ]
      refine wpQuiet_nil ?_
      simp only [putAll, Act.put, List.setIfInBounds_toArray, List.set_cons_zero, List.set_cons_succ]
    case fin =>
      intro N M W hC
      simp only [putAll, Act.put, List.setIfInBounds_toArray, List.set_cons_zero, List.set_cons_succ]
      dsimp only [List.drop]
      have HZ := hid8 hC.fin
      obtain ⟨a0, a1, fG, a3, a4, a5, fB, -⟩ := hC.c
      clear hC HQ
      obtain ⟨g6, c6, hd⟩ : ∃ g6 c6, valG (L.length + 1) M = .slice (some ⟨g6, 0, none⟩) (L.length + 1) c6 ∧ g6 = (decN M).1 ∧ c6 = (decN M).2 := ⟨_, _, rfl, rfl, rfl⟩
      rw [← hd.2.1, ← hd.2.2] at HZ
      rw [hd.1]
      clear hd
      go_wp2
      exact bodyPost_end (v := .tuple #[]) (by simp [results, Try.results52, go_sem]) rfl ⟨rfl, ⟨_, _, HZ.out.1, Nb.of HZ.out.2.2, HNy.out⟩, HZ.out.2.1⟩
end Go.Proofs.Ytofpbommhklooaa
