/-
  Part 2 of the proof: 3 texts, one behind the other.
-/
import Derived.Test.YtofpbommhklooaaPart1
import Derived.Laws.AppendOwnNone
import Derived.Deep.AppendLies
import Derived.Deep.QuietTactic
import Derived.BigQuiet
/-
  Rows in memory, whosever they are: cut, and laid behind a row of one's own.
-/
namespace Go.Proofs.Ytofpbommhklooaa
open Go.RowKit
set_option linter.unusedSimpArgs false
set_option linter.unusedVariables false

/-- A row in memory, whosever it is: n elements of so many cells. -/
def Row (w : World) (size : Nat) (v : Value) (n : Nat) (xs : List Value) : Prop :=
  xs.length = n * size ∧ ∃ ao c, v = .slice ao n c ∧ n ≤ c ∧ ((ao = none ∧ c = 0 ∧ n = 0) ∨ ∃ b off, ao = some ⟨b, off, none⟩ ∧ ∀ j u, xs[j]? = some u → w.cell? ⟨b, off + j, none⟩ = some u)
theorem addA (g o j : Nat) : (⟨g, o, none⟩ : Addr).add j = ⟨g, o + j, none⟩ := by unfold Addr.add; split <;> simp_all
theorem Row.form {w : World} {size n : Nat} {v : Value} {xs : List Value} (h : Row w size v n xs) : ∃ ao c, v = .slice ao n c ∧ n ≤ c := by
  obtain ⟨-, ao, c, e, hc, -⟩ := h
  exact ⟨ao, c, e, hc⟩
theorem own_row {w : World} {base e size n : Nat} {v : Value} {xs : List Value} (h : w.ownsRow base e size v n xs) : Row w size v n xs := by
  refine ⟨h.1, ?_⟩
  rcases h.2 with ⟨e0, e1⟩ | ⟨g, cap, cur, e0, hb, hg, hnc, hm, hs, ht⟩
  · subst e1
    exact ⟨none, 0, e0, Nat.le_refl _, .inl ⟨rfl, rfl, rfl⟩⟩
  · refine ⟨some ⟨g, 0, none⟩, cap, e0, hnc, .inr ⟨g, 0, rfl, ?_⟩⟩
    intro j u hj
    have f := h.cells (g := g) (by rw [e0]; rfl) j u hj
    rw [addA, Nat.zero_add] at f
    rw [Nat.zero_add]
    exact f
theorem run_slice_from {P : Program} {w : World} {t e : TypeId} {i : TypeInfo} {size : Nat} (ht : P.underlying t = some (.slice e)) (hi : P.info? e = some i) (hsize : i.size = size) (ao : Option Addr) (n c k : Nat) (hk : k ≤ n) :
    Sem.run P (Instr.sliceAt t (.slice ao n c) (some (.int .i64 k)) none none) w = .ok (.slice (if c = k then ao else ao.map (·.add (k * size))) (n - k) (c - k)) w := by
  subst hsize
  simp [Instr.sliceAt, Instr.slice, Instr.sliceBounds, Instr.sliceBound, run_underlying ht, sizeOf, typeInfo, hi, hk, go_sem]
theorem run_slice_to {P : Program} {w : World} {t e : TypeId} {i : TypeInfo} (ht : P.underlying t = some (.slice e)) (hi : P.info? e = some i) (ao : Option Addr) (n c k : Nat) (hk : k ≤ c) :
    Sem.run P (Instr.sliceAt t (.slice ao n c) none (some (.int .i64 k)) none) w = .ok (.slice ao k c) w := by
  simp [Instr.sliceAt, Instr.slice, Instr.sliceBounds, Instr.sliceBound, run_underlying ht, sizeOf, typeInfo, hi, hk, go_sem]
theorem wpList_slice_from {P : Program} {w : World} {ops : Array Oper} {rest : List Oper} {o : Oper} {a : Act} {Q : Exit → Act → World → Prop} (hgd : o.guard = none) (t : TypeId) (x lo : Operand)
    (ho : o.op = .slice t x (some lo) none none) (e : TypeId) (i : TypeInfo) (size : Nat) (ht : P.underlying t = some (.slice e)) (hi : P.info? e = some i) (hsize : i.size = size)
    (v : Value) (n : Nat) (xs : List Value) (hs : a.eval x = v) (hr : Row w size v n xs) (k : Nat) (hk : a.eval lo = .int .i64 k) (hkn : k ≤ n)
    (h : ∀ v', Row w size v' (n - k) (xs.drop (k * size)) → wpList P ops Q rest (a.put o.dst v') w) : wpList P ops Q (o :: rest) a w := by
  obtain ⟨hl, ao, c, rfl, hc, hr⟩ := hr
  have := h (.slice (if c = k then ao else ao.map (·.add (k * size))) (n - k) (c - k)) ⟨by rw [List.length_drop, hl, Nat.sub_mul], _, _, rfl, by omega, by
    rcases hr with ⟨rfl, rfl, rfl⟩ | ⟨b, off, rfl, hr⟩
    · refine .inl ⟨by split <;> rfl, by omega, by omega⟩
    · by_cases hck : c = k
      · rw [if_pos hck]
        refine .inr ⟨b, off, rfl, ?_⟩
        intro j u hj
        rw [List.drop_eq_nil_of_le (by rw [hl]; exact Nat.mul_le_mul_right _ (by omega))] at hj
        simp at hj
      · rw [if_neg hck]
        refine .inr ⟨b, off + k * size, by simp [addA], ?_⟩
        intro j u hj
        rw [List.getElem?_drop] at hj
        rw [Nat.add_assoc]
        exact hr _ _ hj⟩
  refine wpList_plain hgd fun K hK => ?_
  unfold Oper.wp
  have hrun := run_slice_from (P := P) (w := w) ht hi hsize ao n c k hkn
  simp [execOp, ho, hs, hk, hrun, Result.andThen]
  exact hK _ _ this
theorem wpList_slice_to {P : Program} {w : World} {ops : Array Oper} {rest : List Oper} {o : Oper} {a : Act} {Q : Exit → Act → World → Prop} (hgd : o.guard = none) (t : TypeId) (x hi' : Operand)
    (ho : o.op = .slice t x none (some hi') none) (e : TypeId) (i : TypeInfo) (size : Nat) (ht : P.underlying t = some (.slice e)) (hi : P.info? e = some i) (hsize : i.size = size)
    (v : Value) (n : Nat) (xs : List Value) (hs : a.eval x = v) (hr : Row w size v n xs) (k : Nat) (hk : a.eval hi' = .int .i64 k) (hkn : k ≤ n)
    (h : ∀ v', Row w size v' k (xs.take (k * size)) → wpList P ops Q rest (a.put o.dst v') w) : wpList P ops Q (o :: rest) a w := by
  obtain ⟨hl, ao, c, rfl, hc, hr⟩ := hr
  have := h (.slice ao k c) ⟨by rw [List.length_take, hl, Nat.min_eq_left (Nat.mul_le_mul_right _ hkn)], _, _, rfl, by omega, by
    rcases hr with ⟨rfl, rfl, rfl⟩ | ⟨b, off, rfl, hr⟩
    · exact .inl ⟨rfl, rfl, by omega⟩
    · refine .inr ⟨b, off, rfl, ?_⟩
      intro j u hj
      refine hr _ _ ?_
      rw [List.getElem?_take] at hj
      split at hj
      · exact hj
      · cases hj⟩
  refine wpList_plain hgd fun K hK => ?_
  unfold Oper.wp
  have hrun := run_slice_to (P := P) (w := w) ht hi ao n c k (by omega)
  simp [execOp, ho, hs, hk, hrun, Result.andThen]
  exact hK _ _ this
theorem own_form {w : World} {base e size n : Nat} {v : Value} {xs : List Value} (h : w.ownsRow base e size v n xs) : ∃ ao c, v = .slice ao n c := by
  rcases h.2 with ⟨e, h⟩ | ⟨g, cap, cur, e, _⟩
  · exact ⟨none, 0, by rw [h]; exact e⟩
  · exact ⟨_, _, e⟩
/-- append(a, b...) where a is the call's own and b is any row. -/
theorem wpList_append_row {P : Program} {w : World} {ops : Array Oper} {rest : List Oper} {o : Oper} {a : Act} {Q : Exit → Act → World → Prop} (hgd : o.guard = none) (s x : Operand) (t : TypeId)
    (ho : o.op = .call { callee := .builtin .append, args := #[s, x], argTypes := #[t, t] })
    (base : Nat) (e : TypeId) (i : TypeInfo) (z : Value) (size bytes : Nat) (ht : P.underlying t = some (.slice e)) (hi : P.info? e = some i) (hz : i.zero = some z)
    (hsize : i.size = size) (hby : i.bytes = bytes) (hzs : z.cells.size = size) (hsz : 0 < size)
    (v : Value) (n : Nat) (xs : List Value) (hs : a.eval s = v) (hown : w.ownsRow base e size v n xs)
    (vx : Value) (m : Nat) (news : List Value) (hx : a.eval x = vx) (hsrc : Row w size vx m news) (h1 : ∀ y ∈ news, y.oneCell' = true)
    (h63 : n + m ≤ maxLen) (hbytes : (n + m) * bytes ≤ 140737488355328) (hbase : base ≤ w.heap.size)
    (h : ∀ ao cap w', w'.ownsRow base e size (.slice ao (n + m) cap) (n + m) (xs ++ news) → w.grownBy w' v.ownBlock → wpList P ops Q rest (a.put o.dst (.slice ao (n + m) cap)) w') : wpList P ops Q (o :: rest) a w := by
  obtain ⟨hl, xo, c, rfl, hcc, hsrc⟩ := hsrc
  rcases hsrc with ⟨rfl, rfl, rfl⟩ | ⟨b, off, rfl, hc⟩
  · have : news = [] := List.eq_nil_of_length_eq_zero (by omega)
    subst this
    refine wpList_append_own_none hgd s x t ho base e i size ht hi v n xs hs hown hx ?_
    obtain ⟨ao, cp, hv⟩ := own_form hown
    have := h ao cp w (by rw [List.append_nil, Nat.add_zero, ← hv]; exact hown) ⟨rfl, rfl, rfl, Nat.le_refl _, fun _ _ _ => rfl⟩
    rw [Nat.add_zero, ← hv] at this
    exact this
  · refine wpList_append_own w hgd s x t ho base e i z size bytes ht hi hz hsize hby hzs hsz v n xs hs hown ⟨b, off, none⟩ m c news hx hl (fun j u hj => by rw [addA]; exact hc j u hj) h1 h63 hbytes hbase ?_
    intro v' w' h2 h3 _
    obtain ⟨ao, cp, hv⟩ := own_form h2
    rw [hv]
    rw [hv] at h2
    exact h ao cp w' h2 h3
theorem Row.below {w w' : World} {size n : Nat} {v : Value} {xs : List Value} (h : Row w size v n xs) (hb : Below w.heap.size w w') : Row w' size v n xs := by
  obtain ⟨hl, ao, c, e, hc, h⟩ := h
  refine ⟨hl, ao, c, e, hc, ?_⟩
  rcases h with h | ⟨b, off, e, h⟩
  · exact .inl h
  · exact .inr ⟨b, off, e, fun j u hj => keepc hb (h j u hj)⟩
end Go.Proofs.Ytofpbommhklooaa
/-
  A tree that grows, in memory: the grower, the tree, and their three rows.
-/
namespace Go.Proofs.Ytofpbommhklooaa
open Go.RowKit
set_option linter.unusedSimpArgs false
set_option linter.unusedVariables false

theorem hid8 {p : Prop} (h : p) : Hid p := h
theorem cellB {W W' : World} {B : Nat} (e : W'.heap[B]? = W.heap[B]?) (o : Nat) : W'.cell? ⟨B, o, none⟩ = W.cell? ⟨B, o, none⟩ := World.cell?_of_block (w := W) (a := ⟨B, o, none⟩) e
theorem frozB {W W' : World} {B : Nat} (e : W'.heap[B]? = W.heap[B]?) (o : Nat) : W'.frozen? ⟨B, o, none⟩ = W.frozen? ⟨B, o, none⟩ := World.frozen?_of_block (w := W) (a := ⟨B, o, none⟩) e
theorem own_blk {W W' : World} {base e size n : Nat} {v : Value} {xs : List Value} (h : W.ownsRow base e size v n xs) (he : ∀ g, v.ownBlock = some g → W'.heap[g]? = W.heap[g]?) : W'.ownsRow base e size v n xs := by
  refine ⟨h.1, ?_⟩
  rcases h.2 with hn | ⟨g, cap, cur, rfl, hb, hg, rest⟩
  · exact .inl hn
  · exact .inr ⟨g, cap, cur, rfl, hb, by rw [he g rfl]; exact hg, rest⟩
theorem setB {W : World} {b o : Nat} (u : Value) {k : Nat} (h : ¬ k = b) : (W.setCell ⟨b, o, none⟩ u).heap[k]? = W.heap[k]? := Below.heap_setCell W ⟨b, o, none⟩ u k h
/-- The cells of a row of nodes, of words, of numbers. -/
def rowNd : List Nd → List Value
  | [] => []
  | x :: l => .int .i32 x.word :: .int .i32 x.high :: .int .i32 x.count :: .int .u16 x.hop :: .int .u8 x.length :: .int .u8 x.height :: rowNd l
def rowWd : List (BitVec 128) → List Value
  | [] => []
  | x :: l => .int .u64 (hI x) :: .int .u64 (lI x) :: rowWd l
def rowIn : List Nat → List Value
  | [] => []
  | k :: l => .int .i64 (k : Int) :: rowIn l
theorem rowNd_app : ∀ l m, rowNd (l ++ m) = rowNd l ++ rowNd m
  | [], m => rfl
  | x :: l, m => by simp [rowNd, rowNd_app l m]
theorem rowWd_app : ∀ l m, rowWd (l ++ m) = rowWd l ++ rowWd m
  | [], m => rfl
  | x :: l, m => by simp [rowWd, rowWd_app l m]
theorem rowIn_app : ∀ l m, rowIn (l ++ m) = rowIn l ++ rowIn m
  | [], m => rfl
  | x :: l, m => by simp [rowIn, rowIn_app l m]
/-- The grower (block G), the tree (block B), the nodes, the words, the way. -/
structure GwV (W : World) (base G B : Nat) (F : Int) (L : List Nd) (ws : List (BitVec 128)) (y : List Nat) (vn vw vy : Value) : Prop where
  g0 : W.cell? ⟨G, 0, none⟩ = some (.pointer (some ⟨B, 0, none⟩))
  g1 : W.cell? ⟨G, 1, none⟩ = some vy
  gf : W.frozen? ⟨G, 1, none⟩ = false
  t0 : W.cell? ⟨B, 0, none⟩ = some (.int .i64 F)
  t1 : W.cell? ⟨B, 1, none⟩ = some vn
  t2 : W.cell? ⟨B, 2, none⟩ = some vw
  f1 : W.frozen? ⟨B, 1, none⟩ = false
  f2 : W.frozen? ⟨B, 2, none⟩ = false
  on : W.ownsRow base 77 6 vn L.length (rowNd L)
  ow : W.ownsRow base 27 2 vw ws.length (rowWd ws)
  oy : W.ownsRow base 3 1 vy y.length (rowIn y)
  gb : G ≠ B
  nG : vn.ownBlock ≠ some G
  nB : vn.ownBlock ≠ some B
  wG : vw.ownBlock ≠ some G
  wB : vw.ownBlock ≠ some B
  yG : vy.ownBlock ≠ some G
  yB : vy.ownBlock ≠ some B
  nw : ∀ z, vn.ownBlock = some z → vw.ownBlock ≠ some z
  ny : ∀ z, vn.ownBlock = some z → vy.ownBlock ≠ some z
  wy : ∀ z, vw.ownBlock = some z → vy.ownBlock ≠ some z
  bG : base ≤ G
  bB : base ≤ B
section
variable {W W' : World} {base G B : Nat} {F : Int} {L : List Nd} {ws : List (BitVec 128)} {y : List Nat} {vn vw vy : Value}
theorem GwV.ltG (k : GwV W base G B F L ws y vn vw vy) : G < W.heap.size := cell_in k.g0
theorem GwV.ltB (k : GwV W base G B F L ws y vn vw vy) : B < W.heap.size := cell_in k.t0
theorem GwV.base_le (k : GwV W base G B F L ws y vn vw vy) : base ≤ W.heap.size := by
  have := k.ltG
  have := k.bG
  omega
/-- It stands where its blocks stand. -/
theorem GwV.keep (k : GwV W base G B F L ws y vn vw vy) (hG : W'.heap[G]? = W.heap[G]?) (hB : W'.heap[B]? = W.heap[B]?) (hn : ∀ z, vn.ownBlock = some z → W'.heap[z]? = W.heap[z]?) (hw : ∀ z, vw.ownBlock = some z → W'.heap[z]? = W.heap[z]?) (hy : ∀ z, vy.ownBlock = some z → W'.heap[z]? = W.heap[z]?) : GwV W' base G B F L ws y vn vw vy :=
  ⟨by rw [cellB hG]; exact k.g0, by rw [cellB hG]; exact k.g1, by rw [frozB hG]; exact k.gf, by rw [cellB hB]; exact k.t0, by rw [cellB hB]; exact k.t1, by rw [cellB hB]; exact k.t2, by rw [frozB hB]; exact k.f1, by rw [frozB hB]; exact k.f2, own_blk k.on hn, own_blk k.ow hw, own_blk k.oy hy, k.gb, k.nG, k.nB, k.wG, k.wB, k.yG, k.yB, k.nw, k.ny, k.wy, k.bG, k.bB⟩
theorem GwV.below (k : GwV W base G B F L ws y vn vw vy) (hb : Below W.heap.size W W') : GwV W' base G B F L ws y vn vw vy :=
  k.keep (hb.block _ k.ltG) (hb.block _ k.ltB) (fun z e => hb.block z (k.on.lt z e).2) (fun z e => hb.block z (k.ow.lt z e).2) (fun z e => hb.block z (k.oy.lt z e).2)
/-- The way has grown by a number. -/
theorem GwV.way {g cap m : Nat} (k : GwV W base G B F L ws y vn vw vy) (hgr : W.grownBy W' vy.ownBlock) (ho : W'.ownsRow base 3 1 (.slice (some ⟨g, 0, none⟩) (y.length + 1) cap) (y.length + 1) (rowIn (y ++ [m]))) (hg : vy.ownBlock = some g ∨ W.heap.size ≤ g) :
    GwV (W'.setCell ⟨G, 1, none⟩ (.slice (some ⟨g, 0, none⟩) (y.length + 1) cap)) base G B F L ws (y ++ [m]) vn vw (.slice (some ⟨g, 0, none⟩) (y.length + 1) cap) := by
  have hG : ¬ g = G := by
    rcases hg with h | h
    · intro e; subst e; exact k.yG h
    · have := k.ltG; omega
  have hB : ¬ g = B := by
    rcases hg with h | h
    · intro e; subst e; exact k.yB h
    · have := k.ltB; omega
  have he : ∀ z, z < W.heap.size → vy.ownBlock ≠ some z → W'.heap[z]? = W.heap[z]? := fun z q1 q2 => hgr.block z q1 (fun e => q2 e.symm)
  have eG := he G k.ltG k.yG
  have eB := he B k.ltB k.yB
  have cG := k.g0
  have dG := k.g1
  have fG := k.gf
  rw [← cellB eG] at cG dG
  rw [← frozB eG] at fG
  have sG : ∀ z, ¬ z = G → (W'.setCell ⟨G, 1, none⟩ (.slice (some ⟨g, 0, none⟩) (y.length + 1) cap)).heap[z]? = W'.heap[z]? := fun z q => setB _ q
  have sB := sG B (Ne.symm k.gb)
  refine ⟨by simp [go_sem, cG], by simp [go_sem, dG], by simp [go_sem, fG], ?_, ?_, ?_, ?_, ?_, ?_, ?_, ?_, k.gb, k.nG, k.nB, k.wG, k.wB, ?_, ?_, k.nw, ?_, ?_, k.bG, k.bB⟩
  · rw [cellB sB, cellB eB]; exact k.t0
  · rw [cellB sB, cellB eB]; exact k.t1
  · rw [cellB sB, cellB eB]; exact k.t2
  · rw [frozB sB, frozB eB]; exact k.f1
  · rw [frozB sB, frozB eB]; exact k.f2
  · exact own_blk k.on (fun z e => by rw [sG z (fun q => k.nG (by rw [e, q])), he z (k.on.lt z e).2 (k.ny z e)])
  · exact own_blk k.ow (fun z e => by rw [sG z (fun q => k.wG (by rw [e, q])), he z (k.ow.lt z e).2 (k.wy z e)])
  · have : (y ++ [m]).length = y.length + 1 := by simp
    rw [this]
    exact own_blk ho (fun z e => by rw [sG z (fun q => by simp [Value.ownBlock] at e; omega)])
  · intro e; simp [Value.ownBlock] at e; omega
  · intro e; simp [Value.ownBlock] at e; omega
  · intro z e e2
    simp [Value.ownBlock] at e2
    subst e2
    rcases hg with h | h
    · exact k.ny g e h
    · have := (k.on.lt g e).2; omega
  · intro z e e2
    simp [Value.ownBlock] at e2
    subst e2
    rcases hg with h | h
    · exact k.wy g e h
    · have := (k.ow.lt g e).2; omega
/-- The nodes have grown by one. -/
theorem GwV.nod {g cap : Nat} {x : Nd} (k : GwV W base G B F L ws y vn vw vy) (hgr : W.grownBy W' vn.ownBlock) (ho : W'.ownsRow base 77 6 (.slice (some ⟨g, 0, none⟩) (L.length + 1) cap) (L.length + 1) (rowNd (L ++ [x]))) (hg : vn.ownBlock = some g ∨ W.heap.size ≤ g) :
    GwV (W'.setCell ⟨B, 1, none⟩ (.slice (some ⟨g, 0, none⟩) (L.length + 1) cap)) base G B F (L ++ [x]) ws y (.slice (some ⟨g, 0, none⟩) (L.length + 1) cap) vw vy := by
  have hG : ¬ g = G := by
    rcases hg with h | h
    · intro e; subst e; exact k.nG h
    · have := k.ltG; omega
  have hB : ¬ g = B := by
    rcases hg with h | h
    · intro e; subst e; exact k.nB h
    · have := k.ltB; omega
  have he : ∀ z, z < W.heap.size → vn.ownBlock ≠ some z → W'.heap[z]? = W.heap[z]? := fun z q1 q2 => hgr.block z q1 (fun e => q2 e.symm)
  have eG := he G k.ltG k.nG
  have eB := he B k.ltB k.nB
  have c0 := k.t0
  have c1 := k.t1
  have c2 := k.t2
  have d1 := k.f1
  have d2 := k.f2
  rw [← cellB eB] at c0 c1 c2
  rw [← frozB eB] at d1 d2
  have sB : ∀ z, ¬ z = B → (W'.setCell ⟨B, 1, none⟩ (.slice (some ⟨g, 0, none⟩) (L.length + 1) cap)).heap[z]? = W'.heap[z]? := fun z q => setB _ q
  have sG := sB G k.gb
  refine ⟨?_, ?_, ?_, by simp [go_sem, c0], by simp [go_sem, c1], by simp [go_sem, c2], by simp [go_sem, d1], by simp [go_sem, d2], ?_, ?_, ?_, k.gb, ?_, ?_, k.wG, k.wB, k.yG, k.yB, ?_, ?_, k.wy, k.bG, k.bB⟩
  · rw [cellB sG, cellB eG]; exact k.g0
  · rw [cellB sG, cellB eG]; exact k.g1
  · rw [frozB sG, frozB eG]; exact k.gf
  · have : (L ++ [x]).length = L.length + 1 := by simp
    rw [this]
    exact own_blk ho (fun z e => by rw [sB z (fun q => by simp [Value.ownBlock] at e; omega)])
  · exact own_blk k.ow (fun z e => by rw [sB z (fun q => k.wB (by rw [e, q])), he z (k.ow.lt z e).2 (fun q => k.nw z q e)])
  · exact own_blk k.oy (fun z e => by rw [sB z (fun q => k.yB (by rw [e, q])), he z (k.oy.lt z e).2 (fun q => k.ny z q e)])
  · intro e; simp [Value.ownBlock] at e; omega
  · intro e; simp [Value.ownBlock] at e; omega
  · intro z e2 e
    simp [Value.ownBlock] at e2
    subst e2
    rcases hg with h | h
    · exact k.nw g h e
    · have := (k.ow.lt g e).2; omega
  · intro z e2 e
    simp [Value.ownBlock] at e2
    subst e2
    rcases hg with h | h
    · exact k.ny g h e
    · have := (k.oy.lt g e).2; omega
/-- The words have grown by one. -/
theorem GwV.wrd {g cap : Nat} {x : BitVec 128} (k : GwV W base G B F L ws y vn vw vy) (hgr : W.grownBy W' vw.ownBlock) (ho : W'.ownsRow base 27 2 (.slice (some ⟨g, 0, none⟩) (ws.length + 1) cap) (ws.length + 1) (rowWd (ws ++ [x]))) (hg : vw.ownBlock = some g ∨ W.heap.size ≤ g) :
    GwV (W'.setCell ⟨B, 2, none⟩ (.slice (some ⟨g, 0, none⟩) (ws.length + 1) cap)) base G B F L (ws ++ [x]) y vn (.slice (some ⟨g, 0, none⟩) (ws.length + 1) cap) vy := by
  have hG : ¬ g = G := by
    rcases hg with h | h
    · intro e; subst e; exact k.wG h
    · have := k.ltG; omega
  have hB : ¬ g = B := by
    rcases hg with h | h
    · intro e; subst e; exact k.wB h
    · have := k.ltB; omega
  have he : ∀ z, z < W.heap.size → vw.ownBlock ≠ some z → W'.heap[z]? = W.heap[z]? := fun z q1 q2 => hgr.block z q1 (fun e => q2 e.symm)
  have eG := he G k.ltG k.wG
  have eB := he B k.ltB k.wB
  have c0 := k.t0
  have c1 := k.t1
  have c2 := k.t2
  have d1 := k.f1
  have d2 := k.f2
  rw [← cellB eB] at c0 c1 c2
  rw [← frozB eB] at d1 d2
  have sB : ∀ z, ¬ z = B → (W'.setCell ⟨B, 2, none⟩ (.slice (some ⟨g, 0, none⟩) (ws.length + 1) cap)).heap[z]? = W'.heap[z]? := fun z q => setB _ q
  have sG := sB G k.gb
  refine ⟨?_, ?_, ?_, by simp [go_sem, c0], by simp [go_sem, c1], by simp [go_sem, c2], by simp [go_sem, d1], by simp [go_sem, d2], ?_, ?_, ?_, k.gb, k.nG, k.nB, ?_, ?_, k.yG, k.yB, ?_, k.ny, ?_, k.bG, k.bB⟩
  · rw [cellB sG, cellB eG]; exact k.g0
  · rw [cellB sG, cellB eG]; exact k.g1
  · rw [frozB sG, frozB eG]; exact k.gf
  · exact own_blk k.on (fun z e => by rw [sB z (fun q => k.nB (by rw [e, q])), he z (k.on.lt z e).2 (k.nw z e)])
  · have : (ws ++ [x]).length = ws.length + 1 := by simp
    rw [this]
    exact own_blk ho (fun z e => by rw [sB z (fun q => by simp [Value.ownBlock] at e; omega)])
  · exact own_blk k.oy (fun z e => by rw [sB z (fun q => k.yB (by rw [e, q])), he z (k.oy.lt z e).2 (fun q => k.wy z q e)])
  · intro e; simp [Value.ownBlock] at e; omega
  · intro e; simp [Value.ownBlock] at e; omega
  · intro z e e2
    simp [Value.ownBlock] at e2
    subst e2
    rcases hg with h | h
    · exact k.nw g e h
    · have := (k.on.lt g e).2; omega
  · intro z e2 e
    simp [Value.ownBlock] at e2
    subst e2
    rcases hg with h | h
    · exact k.wy g h e
    · have := (k.oy.lt g e).2; omega
end
end Go.Proofs.Ytofpbommhklooaa
/-
  A region that draws its order and whose calls make memory: one walk of the text's order, in a class of worlds.
-/
namespace Go.Proofs.Ytofpbommhklooaa
open Go.RowKit
set_option linter.unusedSimpArgs false
set_option linter.unusedVariables false

theorem q_run {P : Program} {ops : Array Oper} {C : World → Prop} {Q : Act → Prop} {a : Act} {o : Oper} {rest : List Oper} {v : Value}
    (hw : Region.wanted o (yielded ops a.tmps) = true) (h : ∀ w, C w → (execOp a.eval o).run P w = .ok (.value v) w) (k : wpQuiet P ops C Q rest (a.put o.dst v)) : wpQuiet P ops C Q (o :: rest) a := by
  refine wpQuiet_step (fun K hK => ?_)
  rw [if_pos hw]
  refine ⟨v, fun w hC => ?_, hK _ k⟩
  unfold Oper.quietAt; rw [h w hC]; exact ⟨rfl, rfl⟩
theorem q_skip {P : Program} {ops : Array Oper} {C : World → Prop} {Q : Act → Prop} {a : Act} {o : Oper} {rest : List Oper}
    (hw : Region.wanted o (yielded ops a.tmps) = false) (k : wpQuiet P ops C Q rest (a.put o.dst undef)) : wpQuiet P ops C Q (o :: rest) a := by
  refine wpQuiet_step (fun K hK => ?_)
  rw [if_neg (by rw [hw]; decide)]
  exact hK _ k
theorem q_call {P : Program} {ops : Array Oper} {C : World → Prop} {Q : Act → Prop} {a : Act} {o : Oper} {rest : List Oper} {v : Value} {f : FuncId} {args : Array Value}
    (hw : Region.wanted o (yielded ops a.tmps) = true) (h : ∀ w, C w → (execOp a.eval o).run P w = .ok (.enter f args) w) (hc : ∀ w, C w → Calls P f args w fun e w' => e = .returned v ∧ C w') (k : wpQuiet P ops C Q rest (a.put o.dst v)) : wpQuiet P ops C Q (o :: rest) a := by
  refine wpQuiet_step (fun K hK => ?_)
  rw [if_pos hw]
  refine ⟨v, fun w hC => ?_, hK _ k⟩
  unfold Oper.quietAt; rw [h w hC]; exact ⟨rfl, hc w hC⟩
theorem q_region {P : Program} {C : World → Prop} {id : Nat} {Q : Exit → Act → World → Prop} {a : Act} {w : World} {l : List Oper} (hm : P.follows .mixedOrders = true) (hB : Region.lexB .any l.toArray = true) (hC : C w.drew)
    (h : wpQuiet P l.toArray C (fun a' => ∀ w', C w' → Q .normal a' w') l a) : (Code.region id l.toArray true).wp P Q a w :=
  wp_region_quiet (C := C) hm hB hC (by simpa using h)
end Go.Proofs.Ytofpbommhklooaa
