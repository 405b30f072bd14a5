/-
  'append(l, m...)' where both rows are the call's own.
-/
import Derived.Test.YtpchhfhdepkbcaaDoorRefY
namespace Go.Proofs.YtpchhfhdepkbcaaDoor
open Go.RowKit
set_option linter.unusedSimpArgs false
set_option linter.unusedVariables false

theorem wpList_append_row {P : Program} {w : World} {ops : Array Oper} {rest : List Oper} {o : Oper} {a : Act} {Q : Exit → Act → World → Prop} (hgd : o.guard = none) (s x : Operand) (t : TypeId)
    (ho : o.op = .call { callee := .builtin .append, args := #[s, x], argTypes := #[t, t] })
    (base : Nat) (e : TypeId) (i : TypeInfo) (z : Value) (bytes : Nat) (ht : P.underlying t = some (.slice e)) (hi : P.info? e = some i) (hz : i.zero = some z)
    (hsize : i.size = 1) (hby : i.bytes = bytes) (hzs : z.cells.size = 1)
    (v : Value) (n : Nat) (xs : List Value) (hs : a.eval s = v) (hown : w.ownsRow base e 1 v n xs)
    (bs : Nat) (u : Value) (m : Nat) (ys : List Value) (hx : a.eval x = u) (hsrc : w.ownsRow bs e 1 u m ys) (h1 : ∀ y ∈ ys, y.oneCell' = true)
    (h63 : n + m ≤ maxLen) (hbytes : (n + m) * bytes ≤ 140737488355328) (hbase : base ≤ w.heap.size)
    (h : ∀ ao cap w', w'.ownsRow base e 1 (.slice ao (n + m) cap) (n + m) (xs ++ ys) → w.grownBy w' v.ownBlock → wpList P ops Q rest (a.put o.dst (.slice ao (n + m) cap)) w') : wpList P ops Q (o :: rest) a w := by
  have hlen := hsrc.1
  rcases hsrc.2 with ⟨hu, hm⟩ | ⟨g, cap, cur, hu, _⟩
  · refine wpList_append_own_none hgd s x t ho base e i 1 ht hi v n xs hs hown (by rw [hx, hu]) ?_
    have hy : ys = [] := by
      rw [hm] at hlen
      cases ys with
      | nil => rfl
      | cons => simp at hlen
    obtain ⟨ao, cp, hv⟩ := own_slice hown
    have := h ao cp w (by rw [hm, hy, List.append_nil, Nat.add_zero, ← hv]; exact hown) ⟨rfl, rfl, rfl, Nat.le_refl _, fun _ _ _ => rfl⟩
    rw [hm, Nat.add_zero, ← hv] at this
    exact this
  · have hc := hsrc.cells (g := g) (by rw [hu]; rfl)
    refine wpList_append_own w hgd s x t ho base e i z 1 bytes ht hi hz hsize hby hzs (by decide) v n xs hs hown ⟨g, 0, none⟩ m cap ys (by rw [hx, hu]) (by simpa using hlen) hc h1 h63 hbytes hbase ?_
    intro v' w' h2 h3 _
    obtain ⟨ao, cp, hv⟩ := own_slice h2
    rw [hv]
    rw [hv] at h2
    exact h ao cp w' h2 h3
theorem onesI (l : List Int) : ∀ y ∈ ints l, y.oneCell' = true := by
  intro y hy
  unfold ints at hy
  obtain ⟨n, -, rfl⟩ := List.mem_map.mp hy
  rfl
theorem gsG_len (last : Bool) : ∀ (l : List ByteArray) (acc xs : List Int), gsG last l acc = some xs → xs.length ≤ acc.length + l.length + 1 := by
  intro l
  induction l with
  | nil => intro acc xs e; simp [gsG] at e; subst e; simp
  | cons q l ih =>
    intro acc xs e
    unfold gsG at e
    split at e
    · injection e with e
      subst e; simp
    · split at e
      · cases e
      · have := ih _ _ e
        simp at this ⊢; omega
theorem gsO_len (t : ByteArray) (last : Bool) (xs : List Int) (e : gsO t last = some xs) : xs.length ≤ t.size + 2 := by
  unfold gsO at e
  split at e
  · injection e with e; subst e; simp
  · have h1 := gsG_len last _ [] xs e
    have h2 := (spl_len t 58 t.size 0 0).2
    simp at h1; omega
theorem gapG_bd (t : ByteArray) : ∀ f i, 0 ≤ gapG t f i → gapG t f i + 2 ≤ t.size := by
  intro f
  induction f with
  | zero => intro i h; exact absurd h (by show ¬ (0 : Int) ≤ -1; omega)
  | succ f ih =>
    intro i h
    by_cases h1 : i + 1 < t.size
    · by_cases h2 : byteAt t i = 58 ∧ byteAt t (i + 1) = 58
      · have e : gapG t (f + 1) i = (i : Int) := by
          show (if _ then _ else _) = _
          rw [if_pos h1, if_pos h2]
        rw [e]; omega
      · have e : gapG t (f + 1) i = gapG t f (i + 1) := by
          show (if _ then _ else _) = _
          rw [if_pos h1, if_neg h2]
        rw [e] at h ⊢
        exact ih _ h
    · have e : gapG t (f + 1) i = -1 := if_neg h1
      rw [e] at h; omega
theorem gapV_bd (t : ByteArray) (h : 0 ≤ gapV t) : gapV t + 2 ≤ t.size := gapG_bd t _ _ h
theorem own_apart {w w' : World} {b1 b2 e n m : Nat} {u v : Value} {xs ys : List Value} (hu : w.ownsRow b1 e 1 u n xs) (hub : ∀ k, u.ownBlock = some k → k < b2) (hv : w.ownsRow b2 e 1 v m ys) (hg : w.grownBy w' v.ownBlock) : w'.ownsRow b1 e 1 u n xs := by
  refine hu.kept hg ?_
  cases h : u.ownBlock with
  | none => exact Or.inl rfl
  | some k =>
    right
    intro q
    have := (hv.lt k q.symm).1
    have := hub k h
    omega
def sliceLen (v : Value) : Nat := match v with | .slice _ n _ => n | _ => 0
theorem At.grownBy {w w' : World} {B : Nat} {x : BitVec 128} {row : Option Nat} (h : At w B x) (hg : w.grownBy w' row) (hne : ¬ some B = row) : At w' B x := by
  obtain ⟨h0, h1, h2, h3, h4⟩ := h
  have hb := hg.block B h4 hne
  exact ⟨hg.cell h0 hne, hg.cell h1 hne, (World.frozen?_of_block (a := ⟨B, 0, none⟩) hb).trans h2, (World.frozen?_of_block (a := ⟨B, 1, none⟩) hb).trans h3, Nat.lt_of_lt_of_le h4 hg.size⟩
theorem rep_ints (A : List Int) (j : Nat) : ints (A ++ List.replicate (j + 1) 0) = ints (A ++ List.replicate j 0) ++ [Value.int .i64 0] := by
  unfold ints
  rw [List.replicate_succ', ← List.append_assoc, List.map_append (l₂ := [0])]
  rfl
end Go.Proofs.YtpchhfhdepkbcaaDoor
