/-
  Rows in memory, whosever they are: cut, and laid behind a row of one's own.
-/
import Derived.Test.YtbamogpbjdobkaaDoorFld
import Derived.Laws.AppendOwnNone
namespace Go.Proofs.YtbamogpbjdobkaaDoor
open Go.RowKit
set_option linter.unusedSimpArgs false
set_option linter.unusedVariables false

/-- A row in memory, whosever it is: n elements of so many cells. -/
def Row (w : World) (size : Nat) (v : Value) (n : Nat) (xs : List Value) : Prop :=
  xs.length = n * size ∧ ∃ ao c, v = .slice ao n c ∧ n ≤ c ∧ ((ao = none ∧ c = 0 ∧ n = 0) ∨ ∃ b off, ao = some ⟨b, off, none⟩ ∧ ∀ j u, xs[j]? = some u → w.cell? ⟨b, off + j, none⟩ = some u)
theorem addA (g o j : Nat) : (⟨g, o, none⟩ : Addr).add j = ⟨g, o + j, none⟩ := by unfold Addr.add; split <;> simp_all
theorem Row.form {w : World} {size n : Nat} {v : Value} {xs : List Value} (h : Row w size v n xs) : ∃ ao c, v = .slice ao n c ∧ n ≤ c := by
  obtain ⟨-, ao, c, e, hc, -⟩ := h
  exact ⟨ao, c, e, hc⟩
theorem own_row {w : World} {base e size n : Nat} {v : Value} {xs : List Value} (h : w.ownsRow base e size v n xs) : Row w size v n xs := by
  refine ⟨h.1, ?_⟩
  rcases h.2 with ⟨e0, e1⟩ | ⟨g, cap, cur, e0, hb, hg, hnc, hm, hs, ht⟩
  · subst e1
    exact ⟨none, 0, e0, Nat.le_refl _, .inl ⟨rfl, rfl, rfl⟩⟩
  · refine ⟨some ⟨g, 0, none⟩, cap, e0, hnc, .inr ⟨g, 0, rfl, ?_⟩⟩
    intro j u hj
    have f := h.cells (g := g) (by rw [e0]; rfl) j u hj
    rw [addA, Nat.zero_add] at f
    rw [Nat.zero_add]
    exact f
theorem run_slice_from {P : Program} {w : World} {t e : TypeId} {i : TypeInfo} {size : Nat} (ht : P.underlying t = some (.slice e)) (hi : P.info? e = some i) (hsize : i.size = size) (ao : Option Addr) (n c k : Nat) (hk : k ≤ n) :
    Sem.run P (Instr.sliceAt t (.slice ao n c) (some (.int .i64 k)) none none) w = .ok (.slice (if c = k then ao else ao.map (·.add (k * size))) (n - k) (c - k)) w := by
  subst hsize
  simp [Instr.sliceAt, Instr.slice, Instr.sliceBounds, Instr.sliceBound, run_underlying ht, sizeOf, typeInfo, hi, hk, go_sem]
theorem run_slice_to {P : Program} {w : World} {t e : TypeId} {i : TypeInfo} (ht : P.underlying t = some (.slice e)) (hi : P.info? e = some i) (ao : Option Addr) (n c k : Nat) (hk : k ≤ c) :
    Sem.run P (Instr.sliceAt t (.slice ao n c) none (some (.int .i64 k)) none) w = .ok (.slice ao k c) w := by
  simp [Instr.sliceAt, Instr.slice, Instr.sliceBounds, Instr.sliceBound, run_underlying ht, sizeOf, typeInfo, hi, hk, go_sem]
theorem wpList_slice_from {P : Program} {w : World} {ops : Array Oper} {rest : List Oper} {o : Oper} {a : Act} {Q : Exit → Act → World → Prop} (hgd : o.guard = none) (t : TypeId) (x lo : Operand)
    (ho : o.op = .slice t x (some lo) none none) (e : TypeId) (i : TypeInfo) (size : Nat) (ht : P.underlying t = some (.slice e)) (hi : P.info? e = some i) (hsize : i.size = size)
    (v : Value) (n : Nat) (xs : List Value) (hs : a.eval x = v) (hr : Row w size v n xs) (k : Nat) (hk : a.eval lo = .int .i64 k) (hkn : k ≤ n)
    (h : ∀ v', Row w size v' (n - k) (xs.drop (k * size)) → wpList P ops Q rest (a.put o.dst v') w) : wpList P ops Q (o :: rest) a w := by
  obtain ⟨hl, ao, c, rfl, hc, hr⟩ := hr
  have := h (.slice (if c = k then ao else ao.map (·.add (k * size))) (n - k) (c - k)) ⟨by rw [List.length_drop, hl, Nat.sub_mul], _, _, rfl, by omega, by
    rcases hr with ⟨rfl, rfl, rfl⟩ | ⟨b, off, rfl, hr⟩
    · refine .inl ⟨by split <;> rfl, by omega, by omega⟩
    · by_cases hck : c = k
      · rw [if_pos hck]
        refine .inr ⟨b, off, rfl, ?_⟩
        intro j u hj
        rw [List.drop_eq_nil_of_le (by rw [hl]; exact Nat.mul_le_mul_right _ (by omega))] at hj
        simp at hj
      · rw [if_neg hck]
        refine .inr ⟨b, off + k * size, by simp [addA], ?_⟩
        intro j u hj
        rw [List.getElem?_drop] at hj
        rw [Nat.add_assoc]
        exact hr _ _ hj⟩
  refine wpList_plain hgd fun K hK => ?_
  unfold Oper.wp
  have hrun := run_slice_from (P := P) (w := w) ht hi hsize ao n c k hkn
  simp [execOp, ho, hs, hk, hrun, Result.andThen]
  exact hK _ _ this
theorem wpList_slice_to {P : Program} {w : World} {ops : Array Oper} {rest : List Oper} {o : Oper} {a : Act} {Q : Exit → Act → World → Prop} (hgd : o.guard = none) (t : TypeId) (x hi' : Operand)
    (ho : o.op = .slice t x none (some hi') none) (e : TypeId) (i : TypeInfo) (size : Nat) (ht : P.underlying t = some (.slice e)) (hi : P.info? e = some i) (hsize : i.size = size)
    (v : Value) (n : Nat) (xs : List Value) (hs : a.eval x = v) (hr : Row w size v n xs) (k : Nat) (hk : a.eval hi' = .int .i64 k) (hkn : k ≤ n)
    (h : ∀ v', Row w size v' k (xs.take (k * size)) → wpList P ops Q rest (a.put o.dst v') w) : wpList P ops Q (o :: rest) a w := by
  obtain ⟨hl, ao, c, rfl, hc, hr⟩ := hr
  have := h (.slice ao k c) ⟨by rw [List.length_take, hl, Nat.min_eq_left (Nat.mul_le_mul_right _ hkn)], _, _, rfl, by omega, by
    rcases hr with ⟨rfl, rfl, rfl⟩ | ⟨b, off, rfl, hr⟩
    · exact .inl ⟨rfl, rfl, by omega⟩
    · refine .inr ⟨b, off, rfl, ?_⟩
      intro j u hj
      refine hr _ _ ?_
      rw [List.getElem?_take] at hj
      split at hj
      · exact hj
      · cases hj⟩
  refine wpList_plain hgd fun K hK => ?_
  unfold Oper.wp
  have hrun := run_slice_to (P := P) (w := w) ht hi ao n c k (by omega)
  simp [execOp, ho, hs, hk, hrun, Result.andThen]
  exact hK _ _ this
theorem own_form {w : World} {base e size n : Nat} {v : Value} {xs : List Value} (h : w.ownsRow base e size v n xs) : ∃ ao c, v = .slice ao n c := by
  rcases h.2 with ⟨e, h⟩ | ⟨g, cap, cur, e, _⟩
  · exact ⟨none, 0, by rw [h]; exact e⟩
  · exact ⟨_, _, e⟩
/-- append(a, b...) where a is the call's own and b is any row. -/
theorem wpList_append_row {P : Program} {w : World} {ops : Array Oper} {rest : List Oper} {o : Oper} {a : Act} {Q : Exit → Act → World → Prop} (hgd : o.guard = none) (s x : Operand) (t : TypeId)
    (ho : o.op = .call { callee := .builtin .append, args := #[s, x], argTypes := #[t, t] })
    (base : Nat) (e : TypeId) (i : TypeInfo) (z : Value) (size bytes : Nat) (ht : P.underlying t = some (.slice e)) (hi : P.info? e = some i) (hz : i.zero = some z)
    (hsize : i.size = size) (hby : i.bytes = bytes) (hzs : z.cells.size = size) (hsz : 0 < size)
    (v : Value) (n : Nat) (xs : List Value) (hs : a.eval s = v) (hown : w.ownsRow base e size v n xs)
    (vx : Value) (m : Nat) (news : List Value) (hx : a.eval x = vx) (hsrc : Row w size vx m news) (h1 : ∀ y ∈ news, y.oneCell' = true)
    (h63 : n + m ≤ maxLen) (hbytes : (n + m) * bytes ≤ 140737488355328) (hbase : base ≤ w.heap.size)
    (h : ∀ ao cap w', w'.ownsRow base e size (.slice ao (n + m) cap) (n + m) (xs ++ news) → w.grownBy w' v.ownBlock → wpList P ops Q rest (a.put o.dst (.slice ao (n + m) cap)) w') : wpList P ops Q (o :: rest) a w := by
  obtain ⟨hl, xo, c, rfl, hcc, hsrc⟩ := hsrc
  rcases hsrc with ⟨rfl, rfl, rfl⟩ | ⟨b, off, rfl, hc⟩
  · have : news = [] := List.eq_nil_of_length_eq_zero (by omega)
    subst this
    refine wpList_append_own_none hgd s x t ho base e i size ht hi v n xs hs hown hx ?_
    obtain ⟨ao, cp, hv⟩ := own_form hown
    have := h ao cp w (by rw [List.append_nil, Nat.add_zero, ← hv]; exact hown) ⟨rfl, rfl, rfl, Nat.le_refl _, fun _ _ _ => rfl⟩
    rw [Nat.add_zero, ← hv] at this
    exact this
  · refine wpList_append_own w hgd s x t ho base e i z size bytes ht hi hz hsize hby hzs hsz v n xs hs hown ⟨b, off, none⟩ m c news hx hl (fun j u hj => by rw [addA]; exact hc j u hj) h1 h63 hbytes hbase ?_
    intro v' w' h2 h3 _
    obtain ⟨ao, cp, hv⟩ := own_form h2
    rw [hv]
    rw [hv] at h2
    exact h ao cp w' h2 h3
theorem Row.below {w w' : World} {size n : Nat} {v : Value} {xs : List Value} (h : Row w size v n xs) (hb : Below w.heap.size w w') : Row w' size v n xs := by
  obtain ⟨hl, ao, c, e, hc, h⟩ := h
  refine ⟨hl, ao, c, e, hc, ?_⟩
  rcases h with h | ⟨b, off, e, h⟩
  · exact .inl h
  · exact .inr ⟨b, off, e, fun j u hj => keepc hb (h j u hj)⟩
end Go.Proofs.YtbamogpbjdobkaaDoor
