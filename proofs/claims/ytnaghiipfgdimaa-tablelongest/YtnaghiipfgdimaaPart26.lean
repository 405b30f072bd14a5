/-
  Part 26 of the proof: 5 texts, one behind the other.
-/
import Derived.Test.YtnaghiipfgdimaaPart10
import Derived.Test.YtnaghiipfgdimaaPart19
import Derived.Test.YtnaghiipfgdimaaPart6
import Derived.Test.YtnaghiipfgdimaaPart5
import Derived.Laws.CopyRow
import Derived.Test.YtnaghiipfgdimaaPart2
import Derived.Deep.AppendLies
import Derived.Deep.RegionHeld3
/-
  Rows of words in memory.
-/
namespace Go.Proofs.Ytnaghiipfgdimaa
open Go.RowKit
set_option linter.unusedSimpArgs false
set_option linter.unusedVariables false

def rowW : List (BitVec 128) → List Value
  | [] => []
  | x :: l => .int .u64 (hI x) :: .int .u64 (lI x) :: rowW l
theorem rowW_app : ∀ l m, rowW (l ++ m) = rowW l ++ rowW m := by
  intro l
  induction l with
  | nil => intro m; rfl
  | cons p l ih => intro m; simp [rowW, ih]
theorem rowW_one (l : List (BitVec 128)) (x : BitVec 128) : rowW (l ++ [x]) = rowW l ++ [.int .u64 (hI x), .int .u64 (lI x)] := by rw [rowW_app]; rfl
theorem rowW_len : ∀ l, (rowW l).length = l.length * 2 := by
  intro l
  induction l with
  | nil => rfl
  | cons p l ih => simp only [rowW, List.length_cons, ih]; omega
theorem rowW_get : ∀ (l : List (BitVec 128)) (j : Nat) (hj : j < l.length), (rowW l)[j * 2]? = some (.int .u64 (hI l[j])) ∧ (rowW l)[j * 2 + 1]? = some (.int .u64 (lI l[j])) := by
  intro l
  induction l with
  | nil => intro j hj; simp at hj
  | cons p l ih =>
    intro j hj
    cases j with
    | zero => simp [rowW]
    | succ j =>
      have := ih j (by simpa using hj)
      rw [show (j + 1) * 2 = j * 2 + 2 by omega, show j * 2 + 2 + 1 = j * 2 + 1 + 2 by omega]
      simpa [rowW] using this
theorem ownW_cells {W : World} {base n g c : Nat} {l : List (BitVec 128)} (h : W.ownsRow base 36 2 (.slice (some ⟨g, 0, none⟩) n c) n (rowW l)) (j : Nat) (hj : j < l.length) :
    W.cell? ⟨g, j * 2, none⟩ = some (.int .u64 (hI l[j])) ∧ W.cell? ⟨g, j * 2 + 1, none⟩ = some (.int .u64 (lI l[j])) := by
  obtain ⟨a, b⟩ := rowW_get l j hj
  have e : ∀ k, (⟨g, 0, none⟩ : Addr).add k = ⟨g, k, none⟩ := fun k => by unfold Addr.add; split <;> simp_all
  have f := fun k u => h.cells (g := g) rfl k u
  exact ⟨by have := f _ _ a; rwa [e] at this, by have := f _ _ b; rwa [e] at this⟩
theorem rowW_set (L : List (BitVec 128)) (k : Nat) (q : BitVec 128) : ((rowW L).set (k * 2) (.int .u64 (hI q))).set (k * 2 + 1) (.int .u64 (lI q)) = if k < L.length then rowW (L.set k q) else rowW L := by
  induction L generalizing k with
  | nil => simp [rowW]
  | cons p L ih =>
    cases k with
    | zero => simp [rowW]
    | succ k =>
      have := ih k
      rw [show (k + 1) * 2 = k * 2 + 1 + 1 by omega, show k * 2 + 1 + 1 + 1 = k * 2 + 1 + 1 + 1 by omega]
      simp only [rowW, List.set_cons_succ, List.length_cons, Nat.add_lt_add_iff_right]
      rw [this]
      split <;> rfl
theorem Try.infoWd : (Try.prog.info? 36).map (fun i => (i.zero, i.size, i.bytes)) = some (some (.agg #[.int .u64 0, .int .u64 0]), 2, 16) := by kernel_rfl
theorem newsWd (W : World) (a b : Value) (t : TypeId) : ∀ j u, [a, b][j]? = some u → (W.alloc (.cells #[a, b] t)).cell? ((⟨W.heap.size, 0, none⟩ : Addr).add j) = some u := by
  intro j u hj
  match j, hj with
  | 0, hj => simp at hj; subst hj; simp [Addr.add, go_sem]
  | 1, hj => simp at hj; subst hj; simp [Addr.add, go_sem]
theorem twoW (a b : Int) : ∀ u ∈ [Value.int .u64 a, Value.int .u64 b], u.oneCell' = true := by
  intro u hu; simp at hu; rcases hu with rfl | rfl <;> rfl
/-- A row's cells are there, and may be written. -/
theorem own_cell6 {W : World} {base e size n g cap : Nat} {xs : List Value} (h : W.ownsRow base e size (.slice (some ⟨g, 0, none⟩) n cap) n xs) (j : Nat) (hj : j < n * size) : (∃ u, W.cell? ⟨g, j, none⟩ = some u) ∧ W.frozen? ⟨g, j, none⟩ = false := by
  rcases h.2 with ⟨h', _⟩ | ⟨g', cap', cur, h', hb, hg, hnc, hcm, hcs, htake⟩
  · cases h'
  · simp only [Value.slice.injEq, Option.some.injEq, Addr.mk.injEq, and_true, true_and] at h'
    obtain ⟨rfl, rfl⟩ := h'
    have hs : j < cur.size := by
      rw [hcs]
      exact Nat.lt_of_lt_of_le hj (Nat.mul_le_mul_right _ hnc)
    refine ⟨⟨cur[j], ?_⟩, ?_⟩
    · simp [World.cell?, hg, hs]
    · simp [World.frozen?, hg]
/-- What put leaves of memory: the row is changed in its own place, or made anew. -/
def PtO (base : Nat) (v : Value) (S : List (BitVec 128)) (w : World) (v' : Value) (w' : World) : Prop := w'.ownsRow base 36 2 v' S.length (rowW S) ∧ w.grownBy w' v.ownBlock ∧ (∀ z, v'.ownBlock = some z → v.ownBlock = some z ∨ w.heap.size ≤ z)
theorem set_midW (S : List (BitVec 128)) (k : Nat) (hk : k ≤ S.length) (d q : BitVec 128) : (S.take k ++ d :: S.drop k).set k q = S.take k ++ q :: S.drop k := by
  rw [List.set_append_right _ _ (by simp; omega)]
  congr 1
  have : k - (S.take k).length = 0 := by simp; omega
  rw [this]
  rfl
theorem mid_backW (S : List (BitVec 128)) (k : Nat) (hk : k < S.length) : S.take (k + 1) ++ S[k] :: S.drop (k + 1) = S.take k ++ S[k] :: S.drop k := by
  rw [List.take_succ_eq_append_getElem hk, List.append_assoc]
  congr 1
  rw [List.drop_eq_getElem_cons hk]
  rfl
theorem mid_getW (S : List (BitVec 128)) (k : Nat) (hk : k < S.length) (d : BitVec 128) (h : k < (S.take (k + 1) ++ d :: S.drop (k + 1)).length) : (S.take (k + 1) ++ d :: S.drop (k + 1))[k] = S[k] := by
  rw [List.getElem_append_left (by simp; omega), List.getElem_take]
/-- Words in order, each once, with another one. -/
def PutS (S : List (BitVec 128)) (x : BitVec 128) (T : List (BitVec 128)) : Prop := T.Pairwise (fun a b => a.toNat < b.toNat) ∧ (∀ y, y ∈ T ↔ (y = x ∨ y ∈ S)) ∧ T.length ≤ S.length + 1
theorem put_there (S : List (BitVec 128)) (x : BitVec 128) (hS : S.Pairwise (fun a b => a.toNat < b.toNat)) (h : x ∈ S) : PutS S x S :=
  ⟨hS, fun y => ⟨.inr, fun q => by rcases q with rfl | q; exact h; exact q⟩, by omega⟩
theorem put_new (S : List (BitVec 128)) (x : BitVec 128) (hS : S.Pairwise (fun a b => a.toNat < b.toNat)) (k : Nat) (hk : k ≤ S.length) (h1 : ∀ q ∈ S.drop k, x.toNat < q.toNat) (h2 : ∀ (h : 0 < k), (S[k - 1]'(by omega)).toNat < x.toNat) : PutS S x (S.take k ++ x :: S.drop k) := by
  refine ⟨?_, ?_, by simp; omega⟩
  · have hs : (S.take k ++ S.drop k).Pairwise (fun a b => a.toNat < b.toNat) := by rw [List.take_append_drop]; exact hS
    obtain ⟨p1, p2, p3⟩ := List.pairwise_append.mp hs
    have h3 : ∀ a ∈ S.take k, a.toNat < x.toNat := by
      intro a ha
      by_cases h0 : 0 < k
      · have h2 := h2 h0
        obtain ⟨i, hi, rfl⟩ := List.mem_iff_getElem.mp ha
        have hi' : i < k := by simp at hi; omega
        rw [List.getElem_take]
        by_cases e : i = k - 1
        · subst e; exact h2
        · have := List.pairwise_iff_getElem.mp hS i (k - 1) (by omega) (by omega) (by omega)
          omega
      · have : k = 0 := by omega
        subst this
        simp at ha
    refine List.pairwise_append.mpr ⟨p1, List.pairwise_cons.mpr ⟨h1, p2⟩, ?_⟩
    intro a ha b hb
    rcases List.mem_cons.mp hb with rfl | q
    · exact h3 a ha
    · exact p3 a ha b q
  · intro y
    have e : y ∈ S ↔ y ∈ S.take k ∨ y ∈ S.drop k := by rw [← List.mem_append, List.take_append_drop]
    rw [List.mem_append, List.mem_cons, e]
    constructor
    · rintro (q | q | q)
      · exact .inr (.inl q)
      · exact .inl q
      · exact .inr (.inr q)
    · rintro (q | q | q)
      · exact .inr (.inl q)
      · exact .inl q
      · exact .inr (.inr q)
end Go.Proofs.Ytnaghiipfgdimaa
/-
  What the calls of the law's SameRoutes, Same (of two that are the same) and Right do.
-/
namespace Go.Proofs.Ytnaghiipfgdimaa
open Go.RowKit
set_option linter.unusedSimpArgs false
set_option linter.unusedVariables false

theorem eqR_run (x : BitVec 128) (n h : Int) (w : World) :
    (Op.equalIn 10000 45 (.agg #[.int .u64 (hI x), .int .u64 (lI x), .int .i64 n, .int .i64 h]) (.agg #[.int .u64 (hI x), .int .u64 (lI x), .int .i64 n, .int .i64 h])).run Try.prog w = .ok true w := by
  go_simp
set_option maxHeartbeats 4000000 in
theorem sameRoutes_any (v u : Value) (l : List Rte) (w : World) (hv : RwR w v l) (hu : RwR w u l) (hl : l.length ≤ 1000000000) :
    Calls Try.prog 28 #[v, u] w fun e w' => e = .returned (.bool true) ∧ Below w.heap.size w w' := by
  obtain ⟨ao, c, rfl, hv⟩ := hv
  obtain ⟨au, d, rfl, hu⟩ := hu
  have HV := hidR hv
  have HU := hidR hu
  clear hv hu
  go_enter Try.func28, Try.ntmps28
  go_wp2_with fail
  go_loopw [5] (fun i wr => ∃ k : Nat, k ≤ l.length ∧ i = .int .i64 k ∧ Below w.heap.size w wr) (fun i _ => l.length - (intOf i).toNat)
  case atStart => exact ⟨0, by omega, rfl, Below.refl _ _⟩
  case round =>
    obtain ⟨k, hk, rfl, hB⟩ := hrel
    by_cases hlt : (k : Int) < (l.length : Int)
    · have hks : k < l.length := by omega
      rcases HV.out with e | ⟨b, off, rfl, hc⟩
      · rw [e] at hks; simp at hks
      · rcases HU.out with e | ⟨b', off', rfl, hc'⟩
        · rw [e] at hks; simp at hks
        · obtain ⟨x0, x1, x2, x3⟩ := rwr_cells hc k hks
          obtain ⟨y0, y1, y2, y3⟩ := rwr_cells hc' k hks
          have x0 := keepc hB x0
          have x1 := keepc hB x1
          have x2 := keepc hB x2
          have x3 := keepc hB x3
          have y0 := keepc hB y0
          have y1 := keepc hB y1
          have y2 := keepc hB y2
          have y3 := keepc hB y3
          have hE := fun w => eqR_run l[k].1.1 l[k].1.2 l[k].2 w
          generalize l[k].1.1 = px at *
          generalize l[k].1.2 = pn at *
          generalize l[k].2 = ph at *
          have mk : IntKind.i64.wrap ((k : Int) + 1) = (k : Int) + 1 := by rw [IntKind.wrap_i64]; omega
          clear hc hc' HV HU
          go_wp2_with fail
          go_quiet (fail)
          go_wp2
          go_roundw
          case rel => exact ⟨k + 1, by omega, by go_num, below_drewN hB _⟩
          case measure => simp [intOf]; omega
    · have hd : ¬ k < l.length := by omega
      clear HV HU
      go_wp2
      go_ret
      exact ⟨rfl, hB⟩
set_option maxHeartbeats 2000000 in
theorem sameT_any (F : Int) (v u : Value) (l : List Rte) (w : World) (hv : RwR w v l) (hu : RwR w u l) (hl : l.length ≤ 1000000000) :
    Calls Try.prog 11 #[.agg #[.int .i64 F, v], .agg #[.int .i64 F, u]] w fun e w' => e = .returned (.bool true) ∧ Below w.heap.size w w' := by
  have b1 := bl1 w (.cells #[.int .i64 F, v] 25)
  have b2 := bl1 (w.alloc (.cells #[.int .i64 F, v] 25)) (.cells #[.int .i64 F, u] 25)
  have KS := sameRoutes_any v u l _ ((hv.below b1).below b2) ((hu.below b1).below b2) hl
  obtain ⟨p0, p1⟩ := (att_new w w.heap.size F v 25 rfl).below b2
  obtain ⟨q0, q1⟩ := att_new (w.alloc (.cells #[.int .i64 F, v] 25)) (w.heap.size + 1) F u 25 (by simp)
  have HB := hidR (keepb b2 b1)
  obtain ⟨ao, c, rfl, -⟩ := hv
  obtain ⟨au, d, rfl, -⟩ := hu
  clear b1 b2
  go_enter Try.func11, Try.ntmps11
  go_wp2_with fail
  refine KS.mono ?_
  rintro e w1 ⟨rfl, hb⟩
  have kB := keepb hb HB.out
  clear KS hb HB p0 p1 q0 q1
  go_wp2
  go_ret
  exact ⟨rfl, kB⟩
/-- Is a table right? -/
def RightT (F : Int) (l : List Rte) : Prop := l.length ≤ 3000 ∧ rtsE F l = 0 ∧ Adj l
set_option maxHeartbeats 2000000 in
theorem rightT_any (F : Int) (v : Value) (l : List Rte) (w : World) (hv : RwR w v l) :
    Calls Try.prog 12 #[.agg #[.int .i64 F, v]] w fun e w' => (∃ r : Bool, (r = true → RightT F l) ∧ e = .returned (.bool r)) ∧ Below w.heap.size w w' := by
  have b1 := bl1 w (.cells #[.int .i64 F, v] 25)
  have KC := rcheckT_any F v l _ (hv.below b1)
  obtain ⟨p0, p1⟩ := att_new w w.heap.size F v 25 rfl
  have HB := hidR b1
  obtain ⟨ao, c, rfl, -⟩ := hv
  clear b1
  by_cases hl : l.length ≤ 3000
  · have h1 : (l.length : Int) ≤ 3000 := by omega
    go_enter Try.func12, Try.ntmps12
    go_wp2_with fail
    refine KC.mono ?_
    rintro e w1 ⟨⟨z, hz, rfl⟩, hb⟩
    have kB := keepb hb HB.out
    have HE : Hid ((z == 0) = true → RightT F l) := hidR (fun h => by
      have h0 : z = 0 := by simpa using h
      subst h0
      have hr : rtsE F l = 0 := Classical.byContradiction fun hn => hn (hz.1 hn).symm
      refine ⟨hl, hr, ?_⟩
      rcases hz.2 hr with ⟨q, -⟩ | ⟨-, q⟩
      · exact q
      · omega)
    clear KC hb HB p0 p1 hz
    go_wp2
    go_ret
    exact ⟨⟨z == 0, HE.out, rfl⟩, kB⟩
  · have h1 : ¬ (l.length : Int) ≤ 3000 := by omega
    clear KC
    go_enter Try.func12, Try.ntmps12
    go_wp2
    go_ret
    exact ⟨.inl rfl, HB.out⟩
end Go.Proofs.Ytnaghiipfgdimaa
/-
  copy of a row of any elements; what the calls of the law's Lend and Kept of tables do.
-/
namespace Go.Proofs.Ytnaghiipfgdimaa
open Go.RowKit
set_option linter.unusedSimpArgs false
set_option linter.unusedVariables false

theorem wpList_copy_any5 {P : Program} {w : World} {ops : Array Oper} {rest : List Oper} {o : Oper} {a : Act} {Q : Exit → Act → World → Prop} (hgd : o.guard = none) (d s : Operand) (dT sT : TypeId)
    (ho : o.op = .call { callee := .builtin .copy, args := #[d, s], argTypes := #[dT, sT] }) (elem : TypeId) (i : TypeInfo) (size : Nat) (hu : P.underlying dT = some (.slice elem)) (hi : P.info? elem = some i) (hsize : i.size = size)
    (base g n cap : Nat) (xs : List Value) (hd : a.eval d = .slice (some ⟨g, 0, none⟩) n cap) (hown : w.ownsRow base elem size (.slice (some ⟨g, 0, none⟩) n cap) n xs)
    (sp : Option Addr) (sLen sCap : Nat) (hs : a.eval s = .slice sp sLen sCap) (hle : sLen ≤ n) (cs : List Value) (hcl : cs.length = sLen * size) (h0 : sp = none → cs = []) (hsrc : ∀ ad, sp = some ad → ∀ j v, cs[j]? = some v → w.cell? (ad.add j) = some v) (h1 : ∀ v ∈ cs, v.oneCell' = true)
    (h : ∀ w', w'.ownsRow base elem size (.slice (some ⟨g, 0, none⟩) n cap) n (cs ++ xs.drop cs.length) → w.grownBy w' (some g) → wpList P ops Q rest (a.put o.dst (goInt sLen)) w') : wpList P ops Q (o :: rest) a w := by
  rcases hown.2 with ⟨h', _⟩ | ⟨g', cap', cur, h', hb, hg, hnc, hcm, hcs, htake⟩
  · cases h'
  · simp only [Value.slice.injEq, Option.some.injEq, Addr.mk.injEq, and_true, true_and] at h'
    obtain ⟨rfl, rfl⟩ := h'
    subst hsize
    have hxl : xs.length = n * i.size := hown.1
    have hfit : cs.length ≤ n * i.size := by rw [hcl]; exact Nat.mul_le_mul_right _ hle
    have hnc' : n * i.size ≤ cap * i.size := Nat.mul_le_mul_right _ hnc
    have hfc : (Builtin.firstCells i.size sLen (.slice sp sLen sCap)).run P w = .ok cs.toArray w := by
      cases sp with
      | none => rw [h0 rfl]; exact run_firstCells_none w i.size sLen sLen sCap
      | some ad => exact run_firstCells_some w i.size sLen ad sLen sCap cs hcl (hsrc ad rfl)
    have hst := run_storeCells_at P g 0 elem cs 0 cur w hg (by simp; omega) h1
    have hmin : Nat.min sLen n = sLen := Nat.min_eq_left hle
    refine wpList_plain hgd fun K hK => ?_
    unfold Oper.wp
    simp only [Nat.add_zero, List.take_zero, List.nil_append, Nat.zero_add] at hst
    simp [execOp, ho, resolve, invoke, builtin, hd, hs, Builtin.copy_, run_underlying hu, Builtin.lenOf, sizeOf, typeInfo, hi, hmin, hfc, hst, Result.andThen]
    refine hK _ _ (h _ ?_ ?_)
    · refine ⟨?_, .inr ⟨g, cap, (cs ++ cur.toList.drop cs.length).toArray, rfl, hb, setRow_heap w g cur _ elem _ hg, hnc, hcm, ?_, ?_⟩⟩
      · rw [List.length_append, List.length_drop]; omega
      · simp; omega
      · show ((cs ++ cur.toList.drop cs.length)).take (n * i.size) = _
        rw [List.take_append, List.take_of_length_le hfit, ← htake, List.drop_take]
    · exact ⟨rfl, rfl, rfl, by simp [World.setRow], fun k _ hk => setRow_other w g k _ (fun e => hk (by simp [e]))⟩
/-- The marks behind a list. -/
def mkR (n j : Nat) : List Rte := (List.range j).map fun (q : Nat) => ((0#128, 0), -7 - ((n : Int) + (q : Int)))
theorem mkR_succ (n j : Nat) : mkR n (j + 1) = mkR n j ++ [((0#128, 0), -7 - ((n : Int) + (j : Int)))] := by
  unfold mkR
  rw [List.range_succ, List.map_append]
  rfl
theorem mkR_len (n j : Nat) : (mkR n j).length = j := by unfold mkR; simp
theorem rowR_len5 : ∀ l, (rowR l).length = l.length * 4 := by
  intro l
  induction l with
  | nil => rfl
  | cons p l ih => simp only [rowR, List.length_cons, ih]; omega
theorem rowR_app5 : ∀ l m, rowR (l ++ m) = rowR l ++ rowR m := by
  intro l
  induction l with
  | nil => intro m; rfl
  | cons p l ih => intro m; simp [rowR, ih]
theorem rowR_one5 (l : List Rte) (x : BitVec 128) (n h : Int) : rowR (l ++ [((x, n), h)]) = rowR l ++ [.int .u64 (hI x), .int .u64 (lI x), .int .i64 n, .int .i64 h] := by rw [rowR_app5]; rfl
theorem rowR_cell5 (l : List Rte) : ∀ u ∈ rowR l, u.oneCell' = true := by
  induction l with
  | nil => intro u hu; cases hu
  | cons p l ih =>
    intro u hu
    simp only [rowR, List.mem_cons] at hu
    rcases hu with rfl | rfl | rfl | rfl | hu
    · rfl
    · rfl
    · rfl
    · rfl
    · exact ih u hu
theorem set4L (A rs : List Value) (n : Nat) (hn : A.length = n) (x y z u : Value) (h : 4 ≤ rs.length) : ((((A ++ rs).set n x).set (n + 1) y).set (n + 2) z).set (n + 3) u = A ++ x :: y :: z :: u :: rs.drop 4 := by
  subst hn
  match rs, h with
  | a :: b :: c :: d :: rs, _ =>
    rw [List.set_append_right _ _ (Nat.le_refl _), Nat.sub_self, List.set_append_right _ _ (by omega), List.set_append_right _ _ (by omega), List.set_append_right _ _ (by omega)]
    have e1 : A.length + 1 - A.length = 1 := by omega
    have e2 : A.length + 2 - A.length = 2 := by omega
    have e3 : A.length + 3 - A.length = 3 := by omega
    rw [e1, e2, e3]
    rfl
theorem drop4 (xs : List Value) (k : Nat) (x y z u : Value) : ((((xs.set (k * 4) x).set (k * 4 + 1) y).set (k * 4 + 2) z).set (k * 4 + 3) u).drop ((k + 1) * 4) = xs.drop ((k + 1) * 4) := by
  rw [List.drop_set_of_lt (by omega), List.drop_set_of_lt (by omega), List.drop_set_of_lt (by omega), List.drop_set_of_lt (by omega)]
theorem drop_get5 (xs ys : List Value) (m : Nat) (h : xs.drop m = ys.drop m) (r : Nat) : xs[m + r]? = ys[m + r]? := by
  have := congrArg (fun z => z[r]?) h
  simpa [List.getElem?_drop] using this
theorem stopHere5 {P : Program} {w : World} {ops : Array Oper} {rest : List Oper} {a : Act} {Q : Exit → Act → World → Prop} {o : Oper} (h : Hid (wpList P ops Q (o :: rest) a w)) : wpList P ops Q (o :: rest) a w := h.out
theorem Try.infoR5 : (Try.prog.info? 45).map (fun i => (i.zero, i.size, i.bytes)) = some (some (.agg #[.int .u64 0, .int .u64 0, .int .i64 0, .int .i64 0]), 4, 32) := by kernel_rfl
/-- A table, and the one that is answered. -/
def LnT (w : World) (F : Int) (v : Value) (W : World) : Prop := AtU W w.heap.size F v ∧ AtU W (w.heap.size + 1) 0 (.slice none 0 0)
theorem LnT.heap {w : World} {F : Int} {v : Value} {W W' : World} (k : LnT w F v W) (h : ∀ z, z < w.heap.size + 2 → W'.heap[z]? = W.heap[z]?) : LnT w F v W' := ⟨k.1.heap (h _ (by omega)), k.2.heap (h _ (by omega))⟩
set_option maxRecDepth 20000 in
set_option maxHeartbeats 8000000 in
theorem lend5_any (F : Int) (v : Value) (l : List Rte) (w : World) (hv : RwR w v l) (hl : l.length ≤ 1000000) :
    Calls Try.prog 7 #[.agg #[.int .i64 F, v]] w fun e w' => (∃ g, e = .returned (.agg #[.int .i64 F, .slice (some ⟨g, 0, none⟩) l.length (l.length + 3)]) ∧ w'.ownsRow w.heap.size 45 4 (.slice (some ⟨g, 0, none⟩) (l.length + 3) (l.length + 3)) (l.length + 3) (rowR (l ++ mkR l.length 3))) ∧ Below w.heap.size w w' := by
  obtain ⟨i0, hi, hz0, hz1, hz2⟩ := info_parts Try.infoR5
  obtain ⟨ao, c, rfl, hv⟩ := hv
  have HV : Hid (l = [] ∨ ∃ b off, ao = some ⟨b, off, none⟩ ∧ ∀ j u, (rowR l)[j]? = some u → w.cell? ⟨b, off + j, none⟩ = some u) := hv
  clear hv
  have m1 : IntKind.i64.wrap ((l.length : Int) + 3) = (l.length : Int) + 3 := by rw [IntKind.wrap_i64]; omega
  have hby : i0.bytes * (l.length + 3) ≤ 281474976710656 := by rw [hz2]; omega
  have q1 := bl1 w (.cells #[.int .i64 F, .slice ao l.length c] 25)
  have q2 := bl1 (w.alloc (.cells #[.int .i64 F, .slice ao l.length c] 25)) (.cells #[.int .i64 0, .slice none 0 0] 25)
  have a1 := atu_new w w.heap.size F (.slice ao l.length c) 25 rfl
  have HT : Hid (LnT w F (.slice ao l.length c) ((w.alloc (.cells #[.int .i64 F, .slice ao l.length c] 25)).alloc (.cells #[.int .i64 0, .slice none 0 0] 25))) := hidR ⟨a1.heap (hAl _ a1.lt), atu_new _ (w.heap.size + 1) 0 (.slice none 0 0) 25 (by simp)⟩
  have HB := hidR (keepb q2 q1)
  obtain ⟨t0, t1, -, -⟩ := HT.out.1
  have hsz : ((w.alloc (.cells #[.int .i64 F, .slice ao l.length c] 25)).alloc (.cells #[.int .i64 0, .slice none 0 0] 25)).heap.size = w.heap.size + 2 := by simp
  clear q1 q2 a1
  go_enter Try.func7, Try.ntmps7
  go_wp2_with (at_make; apply stopHere5)
  refine (show wpList _ _ _ _ _ _ from ?_)
  refine wpList_make_full _ rfl _ _ 22 rfl (w.heap.size + 2) 45 i0 (.agg #[.int .u64 0, .int .u64 0, .int .i64 0, .int .i64 0]) 4 Try.underlying22 hi hz0 hz1 .i64 .i64 _ _ (l.length + 3) rfl rfl (by simp) (by simp) hby (by unfold maxLen; omega) (by rw [hsz]; exact Nat.le_refl _) ?_
  intro w2 ho2 hgrow
  rw [hsz] at ho2
  have HB2 := hidR (HB.out.grown hgrow HB.out.size (fun z hz => by cases hz))
  have HT2 := hidR (HT.out.heap (fun z hz => hgrow.block z (by rw [hsz]; exact hz) (fun e => by cases e)))
  have HO2 := hidR ho2
  clear ho2 hgrow hby HT HB t0 t1
  rw [hsz]
  obtain ⟨t0, t1, -, -⟩ := HT2.out.1
  have hcp : ∀ ad, ao = some ad → ∀ j u, (rowR l)[j]? = some u → w2.cell? (ad.add j) = some u := by
    intro ad e j u hj
    rcases HV.out with h | ⟨b, off, e', hc⟩
    · rw [h] at hj; simp [rowR] at hj
    · rw [e'] at e
      cases e
      rw [addA]
      exact keepc HB2.out (hc j u hj)
  have hcn : ao = none → rowR l = [] := by
    intro e
    rcases HV.out with h | ⟨b, off, e', hc⟩
    · rw [h]; rfl
    · rw [e'] at e; cases e
  have HCP := hidR hcp
  have HCN := hidR hcn
  clear hcp hcn HV
  have HX : Hid (∀ (xs : List Value), xs.length = (l.length + 3) * 4 → (rowR l ++ xs.drop (rowR l).length) = rowR (l ++ mkR l.length 0) ++ xs.drop (rowR l).length ∧ (xs.drop (rowR l).length).length = 12) := hidR (by
    intro xs hx
    refine ⟨by simp [mkR], ?_⟩
    rw [List.length_drop, rowR_len5, hx]
    omega)
  go_wp2_with (first | (refine wpList_copy_any5 rfl (.tmp 10) (.tmp 12) 22 22 rfl 45 i0 4 Try.underlying22 hi hz1 (w.heap.size + 2) (w.heap.size + 2) (l.length + 3) (l.length + 3) _ rfl HO2.out ao l.length c rfl (by omega) (rowR l) (rowR_len5 l) HCN.out HCP.out (rowR_cell5 l) ?_; intro w3 ho3 hgrow3; have HO3 := hidR ho3; have HB3 := hidR (HB2.out.grown hgrow3 HB2.out.size (fun z hz => by cases hz; omega)); have HT3 := hidR (HT2.out.heap (fun z hz => hgrow3.block z (by have := HO2.out.lt (w.heap.size + 2) rfl; omega) (fun e => by cases e; omega))); clear ho3 hgrow3 t0 t1; obtain ⟨t0, t1, -, -⟩ := HT3.out.1))
  obtain ⟨q1, q2⟩ := HX.out _ HO2.out.1
  rw [q1] at HO3
  revert q2
  generalize (List.drop (rowR l).length _) = rs0 at HO3 ⊢
  intro q2
  clear q1 HX HO2 HB2 HCP HCN HT2 t0 t1 hsz
  go_loopw [4] (fun i wr => ∃ j : Nat, j ≤ 3 ∧ i = .int .i64 ((l.length + j : Nat) : Int) ∧ ∃ rs : List Value, rs.length = (3 - j) * 4 ∧ Hid (wr.ownsRow (w.heap.size + 2) 45 4 (.slice (some ⟨w.heap.size + 2, 0, none⟩) (l.length + 3) (l.length + 3)) (l.length + 3) (rowR (l ++ mkR l.length j) ++ rs)) ∧ Hid (LnT w F (.slice ao l.length c) wr) ∧ Hid (Below w.heap.size w wr)) (fun i _ => (l.length + 3) - (intOf i).toNat)
  case atStart => exact ⟨0, by omega, by simp, rs0, by omega, HO3, HT3, HB3⟩
  case round =>
    clear HO3 HB3 HT3
    obtain ⟨j, hj, rfl, rs, hrs, HO, HT, HB⟩ := hrel
    have e1 : ((l.length + j : Nat) : Int) = (l.length : Int) + (j : Int) := by omega
    rw [e1]
    by_cases hlt : j < 3
    · have i1 : (l.length : Int) + (j : Int) < (l.length : Int) + 3 := by omega
      have i2 : (0 : Int) ≤ (l.length : Int) + (j : Int) := by omega
      have i3 : (j : Int) < 3 := by omega
      have mk : IntKind.i64.wrap ((l.length : Int) + (j : Int) + 1) = (l.length : Int) + (j : Int) + 1 := by rw [IntKind.wrap_i64]; omega
      have ms : IntKind.i64.wrap (-7 - ((l.length : Int) + (j : Int))) = -7 - ((l.length : Int) + (j : Int)) := by rw [IntKind.wrap_i64]; omega
      have ea : ((l.length : Int) + (j : Int)).toNat = l.length + j := by omega
      obtain ⟨⟨u0, z0⟩, s0⟩ := own_cell6 HO.out ((l.length + j) * 4) (by omega)
      obtain ⟨⟨u1, z1⟩, s1⟩ := own_cell6 HO.out ((l.length + j) * 4 + 1) (by omega)
      obtain ⟨⟨u2, z2⟩, s2⟩ := own_cell6 HO.out ((l.length + j) * 4 + 2) (by omega)
      obtain ⟨⟨u3, z3⟩, s3⟩ := own_cell6 HO.out ((l.length + j) * 4 + 3) (by omega)
      generalize hmm : -7 - ((l.length : Int) + (j : Int)) = mm at *
      go_wp2
      go_roundw
      case rel =>
        have t1 := ((((HO.out.stored ((l.length + j) * 4) (.int .u64 0)).1.stored ((l.length + j) * 4 + 1) (.int .u64 0)).1.stored ((l.length + j) * 4 + 2) (.int .i64 0)).1.stored ((l.length + j) * 4 + 3) (.int .i64 mm)).1
        rw [set4L _ rs ((l.length + j) * 4) (by rw [rowR_len5, List.length_append, mkR_len]) _ _ _ _ (by omega)] at t1
        refine ⟨j + 1, by omega, by simp; omega, rs.drop 4, by rw [List.length_drop, hrs]; omega, ?_, hidR (HT.out.heap (fun z hz => by rw [hSet _ (by omega), hSet _ (by omega), hSet _ (by omega), hSet _ (by omega)])), hidR ((((HB.out.setCell (p := ⟨w.heap.size + 2, _, none⟩) (by simp) _).setCell (p := ⟨w.heap.size + 2, _, none⟩) (by simp) _).setCell (p := ⟨w.heap.size + 2, _, none⟩) (by simp) _).setCell (p := ⟨w.heap.size + 2, _, none⟩) (by simp) _)⟩
        show World.ownsRow _ _ _ _ _ _ _
        rw [mkR_succ, hmm, ← List.append_assoc, rowR_one5, hI_zero, lI_zero, List.append_assoc]
        exact t1
      case measure => simp [intOf]; omega
    · obtain rfl : j = 3 := by omega
      have hr0 : rs = [] := List.eq_nil_of_length_eq_zero (by omega)
      subst hr0
      rw [List.append_nil] at HO
      have i1 : ¬ (l.length : Int) + ((3 : Nat) : Int) < (l.length : Int) + 3 := by omega
      have i2 : (l.length : Int) ≤ (l.length : Int) + 3 := by omega
      have i3 : l.length ≤ l.length + 3 := by omega
      have HC : Hid ((fun W => LnT w F (.slice ao l.length c) W ∧ W.ownsRow (w.heap.size + 2) 45 4 (.slice (some ⟨w.heap.size + 2, 0, none⟩) (l.length + 3) (l.length + 3)) (l.length + 3) (rowR (l ++ mkR l.length 3)) ∧ Below w.heap.size w W) wr) := hidR ⟨HT.out, HO.out, HB.out⟩
      clear HO HT HB
      go_wp2_with fail
      refine qp_region2 8 (qpOk 8 8 (by decide) (fun N => by kernel_rfl) (by kernel_rfl) (by kernel_rfl) (by kernel_rfl) (by kernel_rfl)) (C := fun W => LnT w F (.slice ao l.length c) W ∧ W.ownsRow (w.heap.size + 2) 45 4 (.slice (some ⟨w.heap.size + 2, 0, none⟩) (l.length + 3) (l.length + 3)) (l.length + 3) (rowR (l ++ mkR l.length 3)) ∧ Below w.heap.size w W) [some 29, some 30, some 31, some 32, some 33, some 34, some 35, some 36] [.pointer (some ⟨w.heap.size, 0, none⟩), .int .i64 F, .slice (some ⟨w.heap.size + 2, 0, none⟩) (l.length + 3) (l.length + 3), .pointer (some ⟨w.heap.size, 1, none⟩), .slice ao l.length c, .int .i64 (l.length : Int), .slice (some ⟨w.heap.size + 2, 0, none⟩) l.length (l.length + 3), .agg #[.int .i64 F, .slice (some ⟨w.heap.size + 2, 0, none⟩) l.length (l.length + 3)]] (by kernel_rfl) ⟨HC.out.1.heap (fun _ _ => rfl), own_heap HC.out.2.1 (fun _ _ => rfl), below_drewN HC.out.2.2 1⟩ ?walk ?fin
      case walk =>
        clear HC
        dsimp only [List.take]
        refine q_run (v := .pointer (some ⟨w.heap.size, 0, none⟩)) (by rfl) ?_ ?_
        · (intro w1 hC; obtain ⟨⟨⟨t0, t1, -, -⟩, -⟩, -, -⟩ := hC; go_simp; first | done | (simp; done) | (simp [*]; done) | omega | (simp; omega) | (rw [IntKind.wrap_i64]; omega) | (intro hx; omega) | rfl)
        simp only [Act.put, List.setIfInBounds_toArray, List.set_cons_zero, List.set_cons_succ]
        refine q_run (v := .int .i64 F) (by rfl) ?_ ?_
        · (intro w1 hC; obtain ⟨⟨⟨t0, t1, -, -⟩, -⟩, -, -⟩ := hC; go_simp; first | done | (simp; done) | (simp [*]; done) | omega | (simp; omega) | (rw [IntKind.wrap_i64]; omega) | (intro hx; omega) | rfl)
        simp only [Act.put, List.setIfInBounds_toArray, List.set_cons_zero, List.set_cons_succ]
        refine q_run (v := .slice (some ⟨w.heap.size + 2, 0, none⟩) (l.length + 3) (l.length + 3)) (by rfl) ?_ ?_
        · (intro w1 hC; obtain ⟨⟨⟨t0, t1, -, -⟩, -⟩, -, -⟩ := hC; go_simp; first | done | (simp; done) | (simp [*]; done) | omega | (simp; omega) | (rw [IntKind.wrap_i64]; omega) | (intro hx; omega) | rfl)
        simp only [Act.put, List.setIfInBounds_toArray, List.set_cons_zero, List.set_cons_succ]
        refine q_run (v := .pointer (some ⟨w.heap.size, 1, none⟩)) (by rfl) ?_ ?_
        · (intro w1 hC; obtain ⟨⟨⟨t0, t1, -, -⟩, -⟩, -, -⟩ := hC; go_simp; first | done | (simp; done) | (simp [*]; done) | omega | (simp; omega) | (rw [IntKind.wrap_i64]; omega) | (intro hx; omega) | rfl)
        simp only [Act.put, List.setIfInBounds_toArray, List.set_cons_zero, List.set_cons_succ]
        refine q_run (v := .slice ao l.length c) (by rfl) ?_ ?_
        · (intro w1 hC; obtain ⟨⟨⟨t0, t1, -, -⟩, -⟩, -, -⟩ := hC; go_simp; first | done | (simp; done) | (simp [*]; done) | omega | (simp; omega) | (rw [IntKind.wrap_i64]; omega) | (intro hx; omega) | rfl)
        simp only [Act.put, List.setIfInBounds_toArray, List.set_cons_zero, List.set_cons_succ]
        refine q_run (v := .int .i64 (l.length : Int)) (by rfl) ?_ ?_
        · (intro w1 hC; obtain ⟨⟨⟨t0, t1, -, -⟩, -⟩, -, -⟩ := hC; go_simp; first | done | (simp; done) | (simp [*]; done) | omega | (simp; omega) | (rw [IntKind.wrap_i64]; omega) | (intro hx; omega) | rfl)
        simp only [Act.put, List.setIfInBounds_toArray, List.set_cons_zero, List.set_cons_succ]
        refine q_run (v := .slice (some ⟨w.heap.size + 2, 0, none⟩) l.length (l.length + 3)) (by rfl) ?_ ?_
        · (intro w1 hC; obtain ⟨⟨⟨t0, t1, -, -⟩, -⟩, -, -⟩ := hC; go_simp; first | done | (simp; done) | (simp [*]; done) | omega | (simp; omega) | (rw [IntKind.wrap_i64]; omega) | (intro hx; omega) | rfl)
        simp only [Act.put, List.setIfInBounds_toArray, List.set_cons_zero, List.set_cons_succ]
        refine q_run (v := .agg #[.int .i64 F, .slice (some ⟨w.heap.size + 2, 0, none⟩) l.length (l.length + 3)]) (by rfl) ?_ ?_
        · (intro w1 hC; obtain ⟨⟨⟨t0, t1, -, -⟩, -⟩, -, -⟩ := hC; go_simp; first | done | (simp; done) | (simp [*]; done) | omega | (simp; omega) | (rw [IntKind.wrap_i64]; omega) | (intro hx; omega) | rfl)
        simp only [Act.put, List.setIfInBounds_toArray, List.set_cons_zero, List.set_cons_succ]
        refine wpQuiet_nil ?_
        simp only [putAll, Act.put, List.setIfInBounds_toArray, List.set_cons_zero, List.set_cons_succ]
      case fin =>
        intro W hC
        simp only [putAll, Act.put, List.setIfInBounds_toArray, List.set_cons_zero, List.set_cons_succ]
        dsimp only [List.drop]
        clear HC
        obtain ⟨hT, hO, hB⟩ := hC
        obtain ⟨r0, r1, r2, r3⟩ := hT.2
        obtain ⟨k0, k1, -, -⟩ := hT.2.set2 F (.slice (some ⟨w.heap.size + 2, 0, none⟩) l.length (l.length + 3))
        have HBs := hidR (bset2 (C := w.heap.size + 1) hB (by omega) (.int .i64 F) (.slice (some ⟨w.heap.size + 2, 0, none⟩) l.length (l.length + 3)))
        have HOs := hidR (own_wide (base' := w.heap.size) (own_heap (W' := (W.setCell ⟨w.heap.size + 1, 0, none⟩ (.int .i64 F)).setCell ⟨w.heap.size + 1, 1, none⟩ (.slice (some ⟨w.heap.size + 2, 0, none⟩) l.length (l.length + 3))) hO (fun z e => by
          have e : w.heap.size + 2 = z := by simpa [Value.ownBlock] using e
          rw [hSet _ (by omega), hSet _ (by omega)])) (by omega))
        clear hT hO hB
        go_wp2
        exact bodyPost_ret (v := .agg #[.int .i64 F, .slice (some ⟨w.heap.size + 2, 0, none⟩) l.length (l.length + 3)]) (by simp [results, Try.results7, go_sem, k0, k1]) rfl ⟨⟨w.heap.size + 2, rfl, HOs.out⟩, HBs.out⟩
end Go.Proofs.Ytnaghiipfgdimaa
/-
  What a call of package word's Text does.
-/
namespace Go.Proofs.Ytnaghiipfgdimaa
open Go.RowKit
set_option linter.unusedSimpArgs false
set_option linter.unusedVariables false

/-- The number of the digit at place k, and its sign. -/
def nib (x : BitVec 128) (k : Nat) : Nat := (lv (x >>> (124 - 4 * k))).toNat % 16
def chN (d : Nat) : Nat := if d < 10 then 48 + d else 87 + d
theorem nib_lt (x : BitVec 128) (k : Nat) : nib x k < 16 := Nat.mod_lt _ (by decide)
theorem and15 (x : BitVec 128) (k : Nat) : bits .and .u64 (lI (x >>> (124 - 4 * k))) 15 = ((nib x k : Nat) : Int) := by
  unfold lI nib
  have h : bits .and .u64 ((lv (x >>> (124 - 4 * k))).toNat : Int) 15 = (((lv (x >>> (124 - 4 * k))).toNat &&& 15 : Nat) : Int) := bits_and_u64_nat _ 15 (BitVec.isLt _) (by decide)
  rw [h]
  congr 1
  exact Nat.and_two_pow_sub_one_eq_mod _ 4
theorem dig_tab (d : Nat) (h : d < 16) : ((⟨#[48, 49, 50, 51, 52, 53, 54, 55, 56, 57, 97, 98, 99, 100, 101, 102]⟩ : ByteArray)[d]'h).toNat = chN d := by
  have all : ∀ j : Fin 16, ((⟨#[48, 49, 50, 51, 52, 53, 54, 55, 56, 57, 97, 98, 99, 100, 101, 102]⟩ : ByteArray)[j.val]'j.isLt).toNat = chN j.val := by decide
  exact all ⟨d, h⟩

theorem new_cell (W : World) (o : Obj) (cs : Array Value) (t : TypeId) (j : Nat) : ((W.alloc o).alloc (.cells cs t)).cell? ⟨W.heap.size + 1, j, none⟩ = cs[j]? := by
  have h : ((W.alloc o).alloc (.cells cs t)).heap[W.heap.size + 1]? = some (.cells cs t) := by
    show ((W.heap.push o).push (.cells cs t))[W.heap.size + 1]? = _
    rw [Array.getElem?_push, if_pos (by simp)]
  unfold World.cell?
  rw [h]
  simp
theorem new_frozen (W : World) (o : Obj) (cs : Array Value) (t : TypeId) (j : Nat) : ((W.alloc o).alloc (.cells cs t)).frozen? ⟨W.heap.size + 1, j, none⟩ = false := by
  simp [go_sem]

theorem set_same {W : World} {B k : Nat} {u v : Value} (h : W.cell? ⟨B, k, none⟩ = some u) : (W.setCell ⟨B, k, none⟩ v).cell? ⟨B, k, none⟩ = some v := by
  simp [go_sem, h]
theorem set_other {W : World} {B k j : Nat} {v : Value} (h : ¬ k = j) : (W.setCell ⟨B, k, none⟩ v).cell? ⟨B, j, none⟩ = W.cell? ⟨B, j, none⟩ := by
  simp [go_sem, h]
/-- The text of a word, as bytes. -/
def txtL (x : BitVec 128) : List Int := (List.range 32).map fun j => (chN (nib x j) : Int)
def txtW (x : BitVec 128) : ByteArray := (txtL x).foldl (fun r n => r.push (UInt8.ofNat n.toNat)) ByteArray.empty
end Go.Proofs.Ytnaghiipfgdimaa
/-
  What a call of the reference's Text does.
-/
namespace Go.Proofs.Ytnaghiipfgdimaa
open Go.RowKit
set_option linter.unusedSimpArgs false
set_option linter.unusedVariables false

theorem bit_div (x : BitVec 128) (i : Int) (d : Nat) (h : i = 127 - (d : Int)) (hd : d ≤ 127) : bitZ x i = ((x.toNat / 2 ^ d % 2 : Nat) : Int) := by
  unfold bitZ
  rw [bitB_in x i (by omega) (by omega), show (127 - i).toNat = d from by omega]
  unfold BitVec.getLsbD
  rw [Nat.testBit_eq_decide_div_mod_eq]
  have : x.toNat / 2 ^ d % 2 = 0 ∨ x.toNat / 2 ^ d % 2 = 1 := by omega
  rcases this with e | e <;> simp [e]
theorem nib_div (x : BitVec 128) (k : Nat) : nib x k = x.toNat / 2 ^ (124 - 4 * k) % 16 := by
  unfold nib
  rw [lvN, BitVec.toNat_ushiftRight, Nat.shiftRight_eq_div_pow]
  omega
theorem nib_bits (x : BitVec 128) (k : Nat) (h : k < 32) : 8 * bitZ x (4 * (k : Int)) + 4 * bitZ x (4 * (k : Int) + 1) + 2 * bitZ x (4 * (k : Int) + 2) + bitZ x (4 * (k : Int) + 3) = ((nib x k : Nat) : Int) := by
  rw [bit_div x (4 * (k : Int)) (124 - 4 * k + 3) (by omega) (by omega), bit_div x (4 * (k : Int) + 1) (124 - 4 * k + 2) (by omega) (by omega), bit_div x (4 * (k : Int) + 2) (124 - 4 * k + 1) (by omega) (by omega), bit_div x (4 * (k : Int) + 3) (124 - 4 * k) (by omega) (by omega), nib_div]
  rw [Nat.pow_add, Nat.pow_add, Nat.pow_add, ← Nat.div_div_eq_div_mul, ← Nat.div_div_eq_div_mul, ← Nat.div_div_eq_div_mul]
  generalize x.toNat / 2 ^ (124 - 4 * k) = m
  omega

/-- The first k signs, as cells. -/
def cellsT (x : BitVec 128) (k : Nat) : List Value := (List.range k).map fun j => Value.int .u8 (chN (nib x j) : Int)
theorem cellsT_succ (x : BitVec 128) (k : Nat) : cellsT x (k + 1) = cellsT x k ++ [Value.int .u8 (chN (nib x k) : Int)] := by
  unfold cellsT; rw [List.range_succ]; simp
theorem cellsT_get (x : BitVec 128) (k j : Nat) (h : j < k) : (cellsT x k)[j]? = some (.int .u8 (chN (nib x j) : Int)) := by
  unfold cellsT
  simp [h]

theorem own_below {base e size n : Nat} {v : Value} {xs : List Value} {W w' : World} (hb : Below W.heap.size W w') (h : W.ownsRow base e size v n xs) : w'.ownsRow base e size v n xs := by
  refine h.kept (row := none) ⟨hb.os, hb.tape, hb.output, hb.size, fun k hk _ => hb.block k hk⟩ ?_
  cases v.ownBlock with
  | none => exact Or.inl rfl
  | some a => exact Or.inr (by simp)

theorem app_keep {w W w1 : World} {x : BitVec 128} {e size n : Nat} {v : Value} {xs : List Value} (o : W.ownsRow (w.heap.size + 1) e size v n xs) (g : W.grownBy w1 v.ownBlock)
    (k1 : W.cell? ⟨w.heap.size, 0, none⟩ = some (.int .u64 (hI x))) (k2 : W.cell? ⟨w.heap.size, 1, none⟩ = some (.int .u64 (lI x))) (k9 : Below w.heap.size w W) :
    w1.cell? ⟨w.heap.size, 0, none⟩ = some (.int .u64 (hI x)) ∧ w1.cell? ⟨w.heap.size, 1, none⟩ = some (.int .u64 (lI x)) ∧ Below w.heap.size w w1 := by
  have hne : some w.heap.size ≠ v.ownBlock := by
    intro h
    have := (o.lt _ h.symm).1
    omega
  refine ⟨g.cell k1 hne, g.cell k2 hne, k9.grown g k9.size ?_⟩
  intro j hj
  have := (o.lt _ hj).1
  omega
theorem al_keep {w W : World} {x : BitVec 128} (o : Obj)
    (k1 : W.cell? ⟨w.heap.size, 0, none⟩ = some (.int .u64 (hI x))) (k2 : W.cell? ⟨w.heap.size, 1, none⟩ = some (.int .u64 (lI x))) (k9 : Below w.heap.size w W) :
    (W.alloc o).cell? ⟨w.heap.size, 0, none⟩ = some (.int .u64 (hI x)) ∧ (W.alloc o).cell? ⟨w.heap.size, 1, none⟩ = some (.int .u64 (lI x)) ∧ Below w.heap.size w (W.alloc o) :=
  ⟨keepc (bl1 W o) k1, keepc (bl1 W o) k2, keepb (bl1 W o) k9⟩
theorem Try.infoB : (Try.prog.info? 5).map (fun i => (i.zero, i.size, i.bytes)) = some (some (.int .u8 0), 1, 1) := by kernel_rfl
end Go.Proofs.Ytnaghiipfgdimaa
