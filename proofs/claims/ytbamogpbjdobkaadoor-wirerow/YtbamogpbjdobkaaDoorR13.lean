/-
  Rows of one cell an element, to be read, whosever they are.
-/
import Derived.Test.YtbamogpbjdobkaaDoorU13
namespace Go.Proofs.YtbamogpbjdobkaaDoor
open Go.RowKit
set_option linter.unusedSimpArgs false
set_option linter.unusedVariables false

theorem hid13 {p : Prop} (h : p) : Hid p := h
def cB (b : Nat) : Value := .int .u8 (b : Int)
noncomputable def cU (x : BitVec 32) : Value := .int .u32 (uI x)
def cI (n : Int) : Value := .int .i64 n
/-- A row in memory, to be read: what lies at each place. -/
def RwX {α : Type} (f : α → Value) (w : World) (v : Value) (l : List α) : Prop :=
  ∃ ao c, v = .slice ao l.length c ∧ l.length ≤ c ∧ (l = [] ∨ ∃ b off, ao = some ⟨b, off, none⟩ ∧ ∀ j x, l[j]? = some x → w.cell? ⟨b, off + j, none⟩ = some (f x))
section
variable {α : Type} {f : α → Value} {w w' : World} {v : Value} {l : List α}
theorem RwX.below (h : RwX f w v l) (hb : Below w.heap.size w w') : RwX f w' v l := by
  obtain ⟨ao, c, e, hc, h⟩ := h
  refine ⟨ao, c, e, hc, ?_⟩
  rcases h with h | ⟨b, off, e, h⟩
  · exact .inl h
  · exact .inr ⟨b, off, e, fun j x hj => keepc hb (h j x hj)⟩
theorem own_rwx {base e : Nat} (h : w.ownsRow base e 1 v l.length (l.map f)) : RwX f w v l := by
  obtain ⟨-, ao, c, e, hc, h⟩ := own_row h
  refine ⟨ao, c, e, hc, ?_⟩
  rcases h with ⟨-, -, h⟩ | ⟨b, off, e, h⟩
  · exact .inl (List.eq_nil_of_length_eq_zero h)
  · exact .inr ⟨b, off, e, fun j x hj => h j _ (by rw [List.getElem?_map, hj]; rfl)⟩
theorem own_rowA {w : World} {base e size n : Nat} {v : Value} {xs : List Value} (h : w.ownsRow base e size v n xs) : RowA w size v n xs := by
  obtain ⟨h1, ao, c, h2, h3, h4⟩ := own_row h
  refine ⟨h1, ao, c, h2, h3, ?_⟩
  rcases h4 with h4 | ⟨b, off, h5, h6⟩
  · exact .inl h4
  · exact .inr ⟨_, h5, fun j u hj => by rw [addA]; exact h6 j u hj⟩
theorem RwX.row (h : RwX f w v l) (hn : l = [] → ∃ n, v = .slice none 0 n ∧ n = 0) : RowA w 1 v l.length (l.map f) := by
  obtain ⟨ao, c, e, hc, h⟩ := h
  refine ⟨by simp, ao, c, e, hc, ?_⟩
  rcases h with h | ⟨b, off, e, h⟩
  · obtain ⟨n, e2, rfl⟩ := hn h
    subst h
    rw [e] at e2
    injection e2 with e3 e4 e5
    subst e3 e5
    exact .inl ⟨rfl, rfl, rfl⟩
  · refine .inr ⟨⟨b, off, none⟩, e, fun j u hj => ?_⟩
    rw [List.getElem?_map] at hj
    cases hx : l[j]? with
    | none => rw [hx] at hj; cases hj
    | some x =>
      rw [hx] at hj
      simp only [Option.map_some, Option.some.injEq] at hj
      rw [addA, ← hj]
      exact h j x hx
end
end Go.Proofs.YtbamogpbjdobkaaDoor
